/-
 What the reference's At, Of and LineAhead answer; nothing old is turned.
-/
import Derived.Test.YtppodkkefegbkaaGreatDoorJz18
import Derived.Test.YtppodkkefegbkaaGreatDoorJz7
import Derived.Lib.SmallJoins
import Derived.Test.YtppodkkefegbkaaGreatDoorJz5
import Derived.Lib.OwnKind
set_option maxRecDepth 100000
set_option maxHeartbeats 16000000
namespace Go.Proofs.YtppodkkefegbkaaGreatDoor
open Go.RowKit Go.Lib Go.Sort
theorem refAt_any (v : Value) (m : List Ln) (x : Pl) (c : ByteArray) (w : World) (h : RefS w v m) (h200 : m.length ≤ 200) (hs : Sorted m) :
  Calls Tryz.prog 52 #[.agg #[v], agP x, .string c] w fun e w' => e = .returned (.int .i64 (atL m (x, c))) ∧ Below w.heap.size w w' := by
 have hB := boxR_below w v x
 obtain ⟨hv, hbx⟩ := boxR_cells w v x
 have hF := find_any v m x c _ (h.all hB) h200
 have hf := (h.all hB).forms
 have HS : Hid (Sorted m) := hs
 have HB : Hid (Below _ _ _) := hB
 have HF : Hid (Calls Tryz.prog 82 _ _ _) := hF
 have hl0 : w.heap.size < (boxR w v x).heap.size := by simp; omega
 clear h hs hB hF
 obtain ⟨a, r, bb⟩ := x
 unfold agP boxR at *
 simp only at *
 obtain ⟨b0, b1, b2⟩ := hbx
 simp only at b0 b1 b2
 rcases findR_cases m ((a, r, bb), c) with ⟨hfr, hno⟩ | ⟨i, l, hfr, hl, hk⟩
 ·have HE : Hid (atL m ((a, r, bb), c) = 0) := atL_none hno
  rw [hfr] at HF
  clear hf hno hfr
  go_enter Tryz.func52, Tryz.ntmps52
  go_wp2_with (go_at_call 82; refine HF.out.mono ?_; rintro e w1 ⟨rfl, hb1⟩; have hbw := HB.out.trans (hb1.mono HB.out.size); have hv1 : w1.cell? ⟨w.heap.size, 0, none⟩ = some v := (hb1.cell (p := ⟨w.heap.size, 0, none⟩) hl0).trans hv)
  go_ret
  exact ⟨by rw [HE.out]; rfl, hbw⟩
 ·have HE : Hid (atL m ((a, r, bb), c) = l.2.2) := by show _ = _; rw [← hk]; exact find_at HS.out hl
  have hi := (List.getElem?_eq_some_iff.1 hl).1
  rw [hfr] at HF
  rcases hf with ⟨rfl, rfl⟩ | ⟨g, cap, rfl, hg, hrow⟩
  ·simp at hl
  ·have hrow1 : Hid (∀ w1, Below _ _ w1 → LineAt w1 g (i * 5) l) := fun w1 hb => (hrow.below hb) i l hl
   clear hl hk hrow hfr hg
   generalize m.length = ln at *
   generalize atL m ((a, r, bb), c) = AA at *
   go_enter Tryz.func52, Tryz.ntmps52
   go_wp2_with (go_at_call 82; refine HF.out.mono ?_; rintro e w1 ⟨rfl, hb1⟩; have hbw := HB.out.trans (hb1.mono HB.out.size); have hv1 : w1.cell? ⟨w.heap.size, 0, none⟩ = some (.slice (some ⟨g, 0, none⟩) ln cap) := (hb1.cell (p := ⟨w.heap.size, 0, none⟩) hl0).trans hv; obtain ⟨c0, c1, c2, c3, c4⟩ := hrow1.out w1 hb1)
   go_ret
   exact ⟨by rw [HE.out]; rfl, hbw⟩
theorem refOf_any (v : Value) (m : List Ln) (c : ByteArray) (w : World) (h : RefS w v m) (hw : Wf m) :
  Calls Tryz.prog 65 #[.agg #[v], .string c] w fun e w' => e = .returned (.int .i64 (ofL m c)) ∧ Below w.heap.size w w' := by
 have hB : Below w.heap.size w (w.alloc (.cells #[v] 76)) := (Below.refl _ w).alloc (Nat.le_refl _) _
 have hv : (w.alloc (.cells #[v] 76)).cell? ⟨w.heap.size, 0, none⟩ = some v := by rw [World.cell?_alloc_at _ _ _ _ rfl]; rfl
 have hf := (h.all hB).forms
 have h200 := hw.len
 have HW : Hid (Wf m) := hw
 clear h hw
 rcases hf with ⟨rfl, rfl⟩ | ⟨g, cap, rfl, hg, hrow⟩
 ·have HB : Hid (Below _ _ _) := hB
  clear hB
  go_enter Tryz.func65, Tryz.ntmps65
  go_wp2
  refine wp_loop_rounds 1 ?_
  rw [rounds_succ]
  go_wp2
  go_ret
  exact ⟨rfl, HB.out⟩
 ·generalize hln : m.length = ln at *
  have HN : Hid (ln = m.length) := hln.symm
  clear hln
  have HB : Hid (Below _ _ _) := hB
  have HR : Hid (RowN _ g m) := hrow
  have HV : Hid (_ = some (Value.slice (some ⟨g, 0, none⟩) ln cap)) := hv
  have HL0 : Hid (w.heap.size < (w.alloc (.cells #[.slice (some ⟨g, 0, none⟩) ln cap] 76)).heap.size) := by show _ < _; simp
  clear hB hrow hg
  go_enter Tryz.func65, Tryz.ntmps65
  go_wp2
  generalize w.alloc (.cells #[.slice (some ⟨g, 0, none⟩) ln cap] 76) = W at *
  go_loopw [5, 6] (fun sm i wr => ∃ k : Nat, k ≤ ln ∧ i = .int .i64 k ∧ sm = .int .i64 (ofL (m.take k) c) ∧ Below W.heap.size W wr) (fun _ i _ => ln - (RowKit.intOf i).toNat)
  case atStart => exact ⟨0, Nat.zero_le _, rfl, rfl, Below.refl _ _⟩
  case round =>
   obtain ⟨k, hk, rfl, rfl, hwr⟩ := hrel
   have hvr : wr.cell? ⟨w.heap.size, 0, none⟩ = some (.slice (some ⟨g, 0, none⟩) ln cap) := by rw [hwr.cell (p := ⟨w.heap.size, 0, none⟩) HL0.out]; exact HV.out
   by_cases hlt : k < ln
   ·have hkm : k < m.length := by rw [← HN.out]; exact hlt
    obtain ⟨l, hl⟩ : ∃ l, m[k]? = some l := ⟨_, List.getElem?_eq_getElem hkm⟩
    obtain ⟨c0, c1, c2, c3, c4⟩ := HR.out.below hwr k l hl
    have e1 := ofL_take_succ hl c
    obtain ⟨o1, o2⟩ := ofL_take_bound HW.out k c
    obtain ⟨o3, o4⟩ := ofL_take_bound HW.out (k + 1) c
    have q1 := HW.out.pos l (List.mem_of_getElem? hl)
    have q2 := HW.out.qty (List.mem_of_getElem? hl)
    clear hl hkm
    obtain ⟨⟨la, lr, lb⟩, lc, lnn⟩ := l
    simp only at c0 c1 c2 c3 c4 e1 q1 q2
    by_cases hc : lc = c
    ·rw [if_pos hc] at e1
     have HE : Hid (ofL (m.take (k + 1)) c = ofL (m.take k) c + lnn) := e1
     subst hc
     clear e1
     generalize ofL (m.take k) lc = O at *
     go_wp2
     go_roundw
     case rel => exact ⟨k + 1, by omega, by go_num, by rw [HE.out], hwr⟩
     case measure => simp [RowKit.intOf]; omega
    ·rw [if_neg hc, Int.add_zero] at e1
     have HE : Hid (ofL (m.take (k + 1)) c = ofL (m.take k) c) := e1
     have e3 := same_eq lc c
     rw [decide_eq_false hc] at e3
     clear e1 hc
     generalize ofL (m.take k) c = O at *
     go_wp2
     go_roundw
     case rel => exact ⟨k + 1, by omega, by go_num, by rw [HE.out], hwr⟩
     case measure => simp [RowKit.intOf]; omega
   ·have e : m.take k = m := List.take_of_length_le (by rw [← HN.out]; omega)
    have HE : Hid (ofL (m.take k) c = ofL m c) := by show _ = _; rw [e]
    clear e
    generalize ofL (m.take k) c = O at *
    go_wp2
    go_ret
    exact ⟨by rw [← HE.out]; rfl, HB.out.trans (hwr.mono HB.out.size)⟩
theorem lineAhead_any (x y : Ln) (w : World) : Calls Tryz.prog 114 #[agN x, agN y] w fun e w' => e = .returned (.bool (aheadN x y)) ∧ Below w.heap.size w w' := by
 have hB := (boxN2_grew w x y).below
 obtain ⟨x0, x1, x2, x3, _⟩ := boxN2_first w x y
 obtain ⟨y0, y1, y2, y3, _⟩ := boxN2_second w x y
 have hI := fun w1 => isAhead_any x.1 y.1 w1
 have hE := fun W => eqK_run x.1 y.1 W
 have hG := Tryz.guardK
 have HE : Hid (aheadN x y = if x.1 = y.1 then zLt x.2.1 y.2.1 else aheadP x.1 y.1) := aheadN_parts x y
 have HB : Hid (Below _ _ _) := hB
 clear hB
 by_cases hp : x.1 = y.1
 ·have HE' : Hid (aheadN x y = zLt x.2.1 y.2.1) := by show _ = _; rw [HE.out, if_pos hp]
  have e1 := less_eq x.2.1 y.2.1
  have H1 : Hid (Op.bytesLess x.2.1.toList y.2.1.toList = zLt x.2.1 y.2.1) := e1
  rw [decide_eq_true hp] at hE
  clear hp hI e1 HE
  generalize aheadN x y = A at *
  obtain ⟨⟨a, r, b⟩, c, n⟩ := x
  obtain ⟨⟨a', r', b'⟩, c', n'⟩ := y
  unfold agN boxN2 at *
  simp only [Nat.zero_add] at *
  go_enter Tryz.func114, Tryz.ntmps114
  go_wp2
  go_ret
  exact ⟨by rw [HE'.out, ← H1.out]; rfl, HB.out⟩
 ·have HE' : Hid (aheadN x y = aheadP x.1 y.1) := by show _ = _; rw [HE.out, if_neg hp]
  rw [decide_eq_false hp] at hE
  clear hp HE
  generalize aheadN x y = A at *
  obtain ⟨⟨a, r, b⟩, c, n⟩ := x
  obtain ⟨⟨a', r', b'⟩, c', n'⟩ := y
  unfold agN agP boxN2 at *
  simp only [Nat.zero_add] at *
  generalize aheadP (a, r, b) (a', r', b') = P at *
  go_enter Tryz.func114, Tryz.ntmps114
  go_wp2_with (go_at_call 133; refine (hI _).mono ?_; rintro e w1 ⟨rfl, hb1⟩)
  go_ret
  exact ⟨by rw [HE'.out]; rfl, HB.out.trans (hb1.mono HB.out.size)⟩
structure KeptBut (B q : Nat) (w w' : World) : Prop where
 os : w'.os = w.os
 tape : w'.tape = w.tape
 output : w'.output = w.output
 size : w.heap.size ≤ w'.heap.size
 block : ∀ k, k < B → k ≠ q → w'.heap[k]? = w.heap[k]?
theorem KeptBut.refl (B q : Nat) (w : World) : KeptBut B q w w := ⟨rfl, rfl, rfl, Nat.le_refl _, fun _ _ _ => rfl⟩
theorem KeptBut.trans {B q : Nat} {w w' w'' : World} (h : KeptBut B q w w') (k : KeptBut B q w' w'') : KeptBut B q w w'' :=
 ⟨k.os.trans h.os, k.tape.trans h.tape, k.output.trans h.output, Nat.le_trans h.size k.size, fun i hi hn => (k.block i hi hn).trans (h.block i hi hn)⟩
theorem KeptBut.of_below {B q : Nat} {w w' : World} (h : Below B w w') : KeptBut B q w w' := ⟨h.os, h.tape, h.output, h.size, fun k hk _ => h.block k hk⟩
theorem KeptBut.cell {B q : Nat} {w w' : World} (h : KeptBut B q w w') {p : Addr} (hp : p.block < B) (hn : p.block ≠ q) : w'.cell? p = w.cell? p := World.cell?_of_block (h.block p.block hp hn)
theorem KeptBut.line {B q g o : Nat} {w w' : World} {l : Ln} (h : KeptBut B q w w') (hl : LineAt w g o l) (hp : g < B) (hn : g ≠ q) : LineAt w' g o l := hl.of_block (h.block g hp hn)
theorem KeptBut.setCell (B q i : Nat) (w : World) (v : Value) : KeptBut B q w (w.setCell ⟨q, i, none⟩ v) := by
 have h := (Below.refl q w).setCell (p := ⟨q, i, none⟩) (Nat.le_refl _) v
 exact ⟨h.os, h.tape, h.output, h.size, fun k _ hn => Below.heap_setCell w ⟨q, i, none⟩ v k hn⟩
structure Gath (B q : Nat) (o : List Ln) (vo : Value) (w : World) : Prop where
 blk : w.heap[q]? = some (.cells #[vo] 76 (0, 0))
 own : w.ownsRow B 48 5 vo o.length (flatN o)
 lt : q < B
 le : B ≤ w.heap.size
theorem Gath.later {B q : Nat} {o : List Ln} {vo : Value} {w w' : World} (h : Gath B q o vo w) (hb : Below w.heap.size w w') : Gath B q o vo w' :=
 ⟨(hb.block q (by have := h.lt; have := h.le; omega)).trans h.blk, h.own.kept (row := none) ⟨hb.os, hb.tape, hb.output, hb.size, fun k hk _ => hb.block k hk⟩ (by cases e : vo.ownBlock with | none => exact Or.inl rfl | some k => exact Or.inr (by simp)), h.lt, Nat.le_trans h.le hb.size⟩
theorem Gath.cell {B q : Nat} {o : List Ln} {vo : Value} {w : World} (h : Gath B q o vo w) : w.cell? ⟨q, 0, none⟩ = some vo ∧ w.frozen? ⟨q, 0, none⟩ = false := ⟨by rw [cell_of_heap h.blk]; rfl, frozen_of_heap h.blk 0⟩
theorem Gath.more {B q : Nat} {o : List Ln} {l : Ln} {vo v' : Value} {w w2 : World} (h : Gath B q o vo w) (hown : w2.ownsRow B 48 5 v' (o.length + 1) (flatN o ++ encN l)) (hg : w.grownBy w2 vo.ownBlock) :
  w2.cell? ⟨q, 0, none⟩ = some vo ∧ w2.frozen? ⟨q, 0, none⟩ = false ∧ Gath B q (o ++ [l]) v' (w2.setCell ⟨q, 0, none⟩ v') ∧ KeptBut B q w (w2.setCell ⟨q, 0, none⟩ v') := by
 have hq : q < w.heap.size := (Array.getElem?_eq_some_iff.1 h.blk).1
 have hlt := h.lt
 have hne : ∀ k, vo.ownBlock = some k → B ≤ k := fun k e => (h.own.lt k e).1
 have hb2 : w2.heap[q]? = some (.cells #[vo] 76 (0, 0)) := (hg.block q hq (fun e => by have := hne q e.symm; omega)).trans h.blk
 have hk : KeptBut B q w w2 := ⟨hg.os, hg.tape, hg.output, hg.size, fun k hk _ => hg.block k (Nat.lt_of_lt_of_le hk h.le) (fun e => by have := hne k e.symm; omega)⟩
 refine ⟨by rw [cell_of_heap hb2]; rfl, frozen_of_heap hb2 0, ⟨?_, ?_, hlt, ?_⟩, hk.trans (KeptBut.setCell B q 0 w2 v')⟩
 ·have := Joins.block_setCell (i := 0) hb2 v'
  simpa using this
 ·rw [flatN_snoc, List.length_append]
  exact ownsRow_setCell_other hown (fun e => by have := (hown.lt q e).1; omega) _
 ·have := (KeptBut.setCell B q 0 w2 v').size
  exact Nat.le_trans h.le (Nat.le_trans hg.size this)
abbrev boxW (w : World) (v : Value) (x : Pl) (c : ByteArray) (n : Int) : World := (((boxR w v x).alloc (.cells #[.slice none 0 0] 76)).alloc (.cells #[.string x.1, .int .i64 x.2.1, .int .i64 x.2.2, .string c, .int .i64 n] 48)).alloc (.cells #[.slice none 0 0] 76)
structure WithW (w W : World) (v : Value) (x : Pl) (c : ByteArray) (n : Int) : Prop where
 below : Below w.heap.size w W
 cv : W.cell? ⟨w.heap.size, 0, none⟩ = some v
 bx : BoxAt (w.heap.size + 1) x W
 res : W.heap[w.heap.size + 1 + 1]? = some (.cells #[.slice none 0 0] 76 (0, 0))
 ln : LineAt W (w.heap.size + 1 + 1 + 1) 0 (x, c, n)
 g : Gath W.heap.size (w.heap.size + 1 + 1 + 1 + 1) [] (.slice none 0 0) W
 sz : W.heap.size = w.heap.size + 1 + 1 + 1 + 1 + 1
theorem withW (w : World) (v : Value) (x : Pl) (c : ByteArray) (n : Int) : WithW w (boxW w v x c n) v x c n := by
 unfold boxW
 have h0 := boxR_below w v x
 obtain ⟨h1, h2⟩ := boxR_cells w v x
 have s0 : (boxR w v x).heap.size = w.heap.size + 1 + 1 := by simp
 have hl0 : w.heap.size < (boxR w v x).heap.size := by omega
 generalize boxR w v x = W0 at *
 have hA : Below W0.heap.size W0 (W0.alloc (.cells #[.slice none 0 0] 76)) := (Below.refl _ _).alloc (Nat.le_refl _) _
 have sA : (W0.alloc (.cells #[.slice none 0 0] 76)).heap.size = w.heap.size + 1 + 1 + 1 := by simp [s0]
 have nA := heap_alloc_new W0 (.cells #[.slice none 0 0] 76)
 rw [s0] at nA
 generalize W0.alloc (.cells #[.slice none 0 0] 76) = W1 at *
 have hC : Below W1.heap.size W1 (W1.alloc (.cells #[.string x.1, .int .i64 x.2.1, .int .i64 x.2.2, .string c, .int .i64 n] 48)) := (Below.refl _ _).alloc (Nat.le_refl _) _
 have sC : (W1.alloc (.cells #[.string x.1, .int .i64 x.2.1, .int .i64 x.2.2, .string c, .int .i64 n] 48)).heap.size = w.heap.size + 1 + 1 + 1 + 1 := by simp [sA]
 have nC := LineAt.new W1 (x, c, n) 48 (w.heap.size + 1 + 1 + 1) sA.symm
 simp only at nC
 generalize W1.alloc (.cells #[.string x.1, .int .i64 x.2.1, .int .i64 x.2.2, .string c, .int .i64 n] 48) = W2 at *
 have hD : Below W2.heap.size W2 (W2.alloc (.cells #[.slice none 0 0] 76)) := (Below.refl _ _).alloc (Nat.le_refl _) _
 have sD : (W2.alloc (.cells #[.slice none 0 0] 76)).heap.size = w.heap.size + 1 + 1 + 1 + 1 + 1 := by simp [sC]
 have nD := heap_alloc_new W2 (.cells #[.slice none 0 0] 76)
 rw [sC] at nD
 generalize W2.alloc (.cells #[.slice none 0 0] 76) = W3 at *
 have hAD : Below W0.heap.size W0 W3 := hA.trans ((hC.trans (hD.mono hC.size)).mono hA.size)
 exact ⟨h0.trans (hAD.mono h0.size), (hAD.cell (p := ⟨w.heap.size, 0, none⟩) hl0).trans h1, h2.below hAD, ((hC.trans (hD.mono hC.size)).block _ (by omega)).trans nA, nC.below hD, ⟨nD, World.ownsRow_nil _ _ _ _, by omega, Nat.le_refl _⟩, sD⟩
theorem RefS.shape {w : World} {v : Value} {m : List Ln} (h : RefS w v m) : ∃ ao cap, v = .slice ao m.length cap ∧ ∀ k l, m[k]? = some l → ∃ g, ao = some ⟨g, 0, none⟩ ∧ g < w.heap.size ∧ LineAt w g (k * 5) l := by
 rcases h.forms with ⟨rfl, rfl⟩ | ⟨g, cap, rfl, hg, hrow⟩
 ·exact ⟨none, 0, rfl, by simp⟩
 ·exact ⟨_, cap, rfl, fun k l hk => ⟨g, rfl, hg, hrow k l hk⟩⟩
theorem with_facts {w W wr : World} {v : Value} {x : Pl} {c : ByteArray} {n : Int} (hW : WithW w W v x c n) (hk : KeptBut W.heap.size (w.heap.size + 1 + 1 + 1 + 1) W wr) :
  wr.cell? ⟨w.heap.size, 0, none⟩ = some v ∧ BoxAt (w.heap.size + 1) x wr ∧ LineAt wr (w.heap.size + 1 + 1 + 1) 0 (x, c, n) ∧ wr.heap[w.heap.size + 1 + 1]? = some (.cells #[.slice none 0 0] 76 (0, 0)) := by
 have hs := hW.sz
 refine ⟨(hk.cell (p := ⟨w.heap.size, 0, none⟩) (by simp; omega) (by simp; omega)).trans hW.cv, ?_, hk.line hW.ln (by omega) (by omega), (hk.block _ (by omega) (by omega)).trans hW.res⟩
 have hb := hk.block (w.heap.size + 1) (by omega) (by omega)
 exact ⟨(World.cell?_of_block (a := ⟨w.heap.size + 1, 0, none⟩) hb).trans hW.bx.c0, (World.cell?_of_block (a := ⟨w.heap.size + 1, 1, none⟩) hb).trans hW.bx.c1, (World.cell?_of_block (a := ⟨w.heap.size + 1, 2, none⟩) hb).trans hW.bx.c2⟩
theorem more_line {q g o' : Nat} {l' : Ln} {vo v' : Value} {w w2 : World} (hg : w.grownBy w2 vo.ownBlock) (hl : LineAt w g o' l') (hne : vo.ownBlock ≠ some g) (hgq : g ≠ q) : LineAt (w2.setCell ⟨q, 0, none⟩ v') g o' l' :=
 hl.of_block ((Below.heap_setCell w2 ⟨q, 0, none⟩ v' g hgq).trans (hg.block g hl.lt (fun e => hne e.symm)))
theorem own_sliceN {w : World} {B e n : Nat} {v : Value} {xs : List Value} (h : w.ownsRow B e 5 v n xs) : ∃ ao k cap, v = .slice ao k cap := by
 rcases h.2 with ⟨hv, _⟩ | ⟨g, cap, cur, hv, _⟩
 ·exact ⟨_, _, _, hv⟩
 ·exact ⟨_, _, _, hv⟩
theorem with_any (v : Value) (m : List Ln) (x : Pl) (c : ByteArray) (n : Int) (w : World) (h : RefS w v m) (h200 : m.length ≤ 200) :
  Calls Tryz.prog 93 #[.agg #[v], agP x, .string c, .int .i64 n] w fun e w' => ∃ v', e = .returned (.agg #[v']) ∧ RefS w' v' (withL m (x, c) n) ∧ Below w.heap.size w w' := by
 obtain ⟨i0, hi, hz0, hz1, hz2⟩ := info_parts Tryz.infoLn
 have hW := withW w v x c n
 have hE := fun (l : Ln) W => eqK_run l.1 x W
 have hG := Tryz.guardK
 have HLA : Hid (∀ (l : Ln) w1, Calls Tryz.prog 114 #[agN (x, c, n), agN l] w1 fun e w' => e = .returned (.bool (aheadN (x, c, n) l)) ∧ Below w1.heap.size w1 w') := fun l w1 => lineAhead_any (x, c, n) l w1
 have HWE : Hid (wend (x, c, n) (wrun (x, c, n) (decide (n = 0)) m) = withL m (x, c) n) := wend_run m (x, c) n
 obtain ⟨ao, cap, rfl, hsh⟩ := h.shape
 have hBel := hW.below
 have HSh : Hid (∀ k l, m[k]? = some l → ∃ g, ao = some ⟨g, 0, none⟩ ∧ g < w.heap.size ∧ LineAt (boxW w (.slice ao m.length cap) x c n) g (k * 5) l) := fun k l hk => by
  obtain ⟨g, h1, h2, h3⟩ := hsh k l hk
  exact ⟨g, h1, h2, h3.below hBel⟩
 clear h hsh hBel
 generalize withL m (x, c) n = mR at *
 obtain ⟨a, r, bb⟩ := x
 unfold agP agN boxW boxR at *
 simp only at *
 generalize hln : m.length = ln at *
 have HN : Hid (ln = m.length) := hln.symm
 clear hln
 have hnz : (n == 0) = decide (n = 0) := rfl
 generalize decide (n = 0) = z at *
 have HW : Hid (WithW w _ _ (a, r, bb) c n) := hW
 have HE : Hid (∀ (l : Ln) W, _) := hE
 clear hW hE
 go_enter Tryz.func93, Tryz.ntmps93
 go_wp2
 generalize ((((w.alloc (.cells #[.slice ao ln cap] 76)).alloc (.cells #[.string a, .int .i64 r, .int .i64 bb] 41)).alloc (.cells #[.slice none 0 0] 76)).alloc (.cells #[.string a, .int .i64 r, .int .i64 bb, .string c, .int .i64 n] 48)).alloc (.cells #[.slice none 0 0] 76) = W at *
 have HSz : Hid (W.heap.size = w.heap.size + 1 + 1 + 1 + 1 + 1) := HW.out.sz
 obtain ⟨B, hB⟩ : ∃ B, B = W.heap.size := ⟨_, rfl⟩
 have HB : Hid (B = W.heap.size) := hB
 clear hB
 have HF : Hid (∀ wr, KeptBut B (w.heap.size + 1 + 1 + 1 + 1) W wr → _) := fun wr hk => with_facts HW.out (by rw [← HB.out]; exact hk)
 have hG0 : Gath B (w.heap.size + 1 + 1 + 1 + 1) [] (.slice none 0 0) W := by rw [HB.out]; exact HW.out.g
 go_loopw [11, 12] (fun dn i wr => ∃ (k : Nat) (vo : Value), k ≤ ln ∧ i = .int .i64 k ∧ dn = .bool (wrun ((a, r, bb), c, n) z (m.take k)).2 ∧ Gath B (w.heap.size + 1 + 1 + 1 + 1) (wrun ((a, r, bb), c, n) z (m.take k)).1 vo wr ∧ KeptBut B (w.heap.size + 1 + 1 + 1 + 1) W wr) (fun _ i _ => ln - (RowKit.intOf i).toNat)
 case atStart => exact ⟨0, .slice none 0 0, Nat.zero_le _, rfl, by simp [wrun_nil], hG0, KeptBut.refl _ _ _⟩
 case round =>
  clear hG0
  obtain ⟨k, vo, hk, rfl, rfl, hga, hke⟩ := hrel
  obtain ⟨f0, ⟨p0, p1, p2⟩, ⟨x0, x1, x2, x3, x4⟩, hres⟩ := HF.out wr hke
  simp only [Nat.zero_add] at p0 p1 p2 x0 x1 x2 x3 x4
  have hlen := wrun_short ((a, r, bb), c, n) z (m.take k)
  have hlt200 : (m.take k).length ≤ 200 := by have := List.length_take_le k m; omega
  obtain ⟨o0, of0⟩ := hga.cell
  by_cases hlt : k < ln
  ·have hkm : k < m.length := by rw [← HN.out]; exact hlt
   obtain ⟨l, hl⟩ : ∃ l, m[k]? = some l := ⟨_, List.getElem?_eq_getElem hkm⟩
   obtain ⟨g, rfl, hg, hline⟩ := HSh.out k l hl
   obtain ⟨c0, c1, c2, c3, c4⟩ := hke.line hline (by have := HB.out; have := HSz.out; omega) (by omega)
   have hst : m.take (k + 1) = m.take k ++ [l] := by
    obtain ⟨h1, h2⟩ := List.getElem?_eq_some_iff.1 hl
    rw [List.take_succ_eq_append_getElem h1, h2]
   have hq := HE.out l
   have hla := HLA.out l
   have HS1 : Hid (m.take (k + 1) = m.take k ++ [l]) := hst
   have hwrB : Hid (B ≤ wr.heap.size) := hga.le
   clear hl hkm hline hst
   have HSt : Hid (wrun ((a, r, bb), c, n) z (m.take (k + 1)) = wstep ((a, r, bb), c, n) (wrun ((a, r, bb), c, n) z (m.take k)) l) := by show _ = _; rw [HS1.out, wrun_snoc]
   clear HS1
   generalize (m.take k).length = tl at *
   generalize wrun ((a, r, bb), c, n) z (m.take k) = S0 at *
   obtain ⟨⟨la, lr, lb⟩, lc, lnn⟩ := l
   simp only at c0 c1 c2 c3 c4 hq hla
   have hbox := LineAt.new wr ((la, lr, lb), lc, lnn) 48 _ rfl
   have hbA : Below wr.heap.size wr (wr.alloc (.cells #[.string la, .int .i64 lr, .int .i64 lb, .string lc, .int .i64 lnn] 48)) := (Below.refl _ wr).alloc (Nat.le_refl _) _
   have hgA := hga.later hbA
   have hkA := hke.trans (KeptBut.of_below (hbA.mono hga.le))
   obtain ⟨_, ⟨pA0, pA1, pA2⟩, ⟨xA0, xA1, xA2, xA3, xA4⟩, _⟩ := HF.out _ hkA
   obtain ⟨oA, ofA⟩ := hgA.cell
   obtain ⟨lA0, lA1, lA2, lA3, lA4⟩ := hbox
   simp only [Nat.zero_add] at pA0 pA1 pA2 xA0 xA1 xA2 xA3 xA4 lA0 lA1 lA2 lA3 lA4
   have hlbox : Hid (LineAt (wr.alloc (.cells #[.string la, .int .i64 lr, .int .i64 lb, .string lc, .int .i64 lnn] 48)) wr.heap.size 0 ((la, lr, lb), lc, lnn)) := LineAt.new wr ((la, lr, lb), lc, lnn) 48 _ rfl
   have howl : Hid (∀ k, vo.ownBlock = some k → k < wr.heap.size) := fun k e => (hga.own.lt k e).2
   by_cases hkey : keyL ((la, lr, lb), lc, lnn) = keyL ((a, r, bb), c, n)
   ·have HS2 : Hid (wrun ((a, r, bb), c, n) z (m.take (k + 1)) = S0) := by show _ = _; rw [HSt.out, wstep_same hkey]
    have hp : ((la, lr, lb) : Pl) = (a, r, bb) := congrArg Prod.fst hkey
    have hc : lc = c := congrArg Prod.snd hkey
    rw [decide_eq_true hp] at hq
    subst hc
    clear hkey hp
    go_wp2
    go_roundw
    case rel => exact ⟨k + 1, vo, by omega, by go_num, by rw [HS2.out], by rw [HS2.out]; exact hgA, hkA⟩
    case measure => simp [RowKit.intOf]; omega
   ·have hcase : (∀ W, (Op.equalIn 10000 41 (.agg #[.string la, .int .i64 lr, .int .i64 lb]) (.agg #[.string a, .int .i64 r, .int .i64 bb])).run Tryz.prog W = .ok false W) ∨ ((∀ W, (Op.equalIn 10000 41 (.agg #[.string la, .int .i64 lr, .int .i64 lb]) (.agg #[.string a, .int .i64 r, .int .i64 bb])).run Tryz.prog W = .ok true W) ∧ (lc.toList == c.toList) = false) := by
     by_cases hp : ((la, lr, lb) : Pl) = (a, r, bb)
     ·right
      rw [decide_eq_true hp] at hq
      refine ⟨hq, ?_⟩
      rw [same_eq]
      exact decide_eq_false (fun e => hkey (by unfold keyL; simp only; rw [hp, e]))
     ·left
      rw [decide_eq_false hp] at hq
      exact hq
    clear hq
    have HKey : Hid (keyL ((la, lr, lb), lc, lnn) ≠ keyL ((a, r, bb), c, n)) := hkey
    clear hkey
    obtain ⟨S01, S02⟩ := S0
    simp only at hgA hlen hga
    cases S02 with
    | true =>
     have HS2 : Hid (wrun ((a, r, bb), c, n) z (m.take (k + 1)) = (S01 ++ [((la, lr, lb), lc, lnn)], true)) := by show _ = _; rw [HSt.out, wstep_done HKey.out rfl]
     have hgB := fun o => hgA.later ((Below.refl _ _).alloc (Nat.le_refl _) o)
     have hkB := fun o => hkA.trans (KeptBut.of_below (((Below.refl _ (wr.alloc (.cells #[.string la, .int .i64 lr, .int .i64 lb, .string lc, .int .i64 lnn] 48))).alloc (Nat.le_refl _) o).mono hgA.le))
     clear hla HSt
     rcases hcase with hq | ⟨hq, e3⟩
     all_goals
      go_wp2_with (at_builtin; refine wpList_append_own _ rfl _ _ 23 rfl B 48 i0 (.agg #[.string ⟨#[]⟩, .int .i64 0, .int .i64 0, .string ⟨#[]⟩, .int .i64 0]) 5 56 Tryz.underlying23 hi hz0 hz1 hz2 rfl (by decide) _ _ _ rfl (hgB _).own ⟨_, 0, none⟩ 1 1 (encN ((la, lr, lb), lc, lnn)) rfl rfl (encN_cells _ ((la, lr, lb), lc, lnn) _ _ (by simp)) (encN_one _) (by unfold maxLen; omega) (by omega) (hgB _).le ?_; intro v2 w2 hown2 hgrow2 _; obtain ⟨ao2, k2, cp2, rfl⟩ := own_sliceN hown2; obtain ⟨d2, f2, hG2, hK2⟩ := (hgB _).more hown2 hgrow2)
      go_roundw
      case rel => exact ⟨k + 1, _, by omega, by go_num, by rw [HS2.out], by rw [HS2.out]; exact hG2, (hkB _).trans hK2⟩
      case measure => simp [RowKit.intOf]; omega
    | false =>
     cases ha : aheadN ((a, r, bb), c, n) ((la, lr, lb), lc, lnn) with
     | false =>
      have HS2 : Hid (wrun ((a, r, bb), c, n) z (m.take (k + 1)) = (S01 ++ [((la, lr, lb), lc, lnn)], false)) := by show _ = _; rw [HSt.out, wstep_later HKey.out rfl ha]
      rw [ha] at hla
      clear HSt ha
      rcases hcase with hq | ⟨hq, e3⟩
      all_goals
       go_wp2_with (first
        | (go_at_call 114; refine (hla _).mono ?_; rintro e w3 ⟨rfl, hb3⟩; have hg3 := hgA.later hb3; have hk3 := hkA.trans (KeptBut.of_below (hb3.mono hgA.le)); obtain ⟨_, _, ⟨y0, y1, y2, y3, y4⟩, _⟩ := HF.out _ hk3; obtain ⟨o3, of3⟩ := hg3.cell; have hlb3 := hlbox.out.below hb3; obtain ⟨l0, l1, l2, l3, l4⟩ := hlbox.out.below hb3; have hgB := fun o => hg3.later ((Below.refl _ w3).alloc (Nat.le_refl _) o); simp only [Nat.zero_add] at y0 y1 y2 y3 y4 l0 l1 l2 l3 l4)
        | (at_builtin; refine wpList_append_own _ rfl _ _ 23 rfl B 48 i0 (.agg #[.string ⟨#[]⟩, .int .i64 0, .int .i64 0, .string ⟨#[]⟩, .int .i64 0]) 5 56 Tryz.underlying23 hi hz0 hz1 hz2 rfl (by decide) _ _ _ rfl (hgB _).own ⟨_, 0, none⟩ 1 1 (encN ((la, lr, lb), lc, lnn)) rfl rfl (encN_cells _ ((la, lr, lb), lc, lnn) _ _ (by simp)) (encN_one _) (by unfold maxLen; omega) (by omega) (hgB _).le ?_; intro v2 w2 hown2 hgrow2 _; obtain ⟨ao2, k2, cp2, rfl⟩ := own_sliceN hown2; obtain ⟨d2, f2, hG2, hK2⟩ := (hgB _).more hown2 hgrow2))
       go_roundw
       case rel => exact ⟨k + 1, _, by omega, by go_num, by rw [HS2.out], by rw [HS2.out]; exact hG2, (hk3.trans (KeptBut.of_below (((Below.refl _ w3).alloc (Nat.le_refl _) _).mono hg3.le))).trans hK2⟩
       case measure => simp [RowKit.intOf]; omega
     | true =>
      have HS2 : Hid (wrun ((a, r, bb), c, n) z (m.take (k + 1)) = (S01 ++ [((a, r, bb), c, n)] ++ [((la, lr, lb), lc, lnn)], true)) := by show _ = _; rw [HSt.out, wstep_here HKey.out rfl ha]
      rw [ha] at hla
      clear HSt ha
      rcases hcase with hq | ⟨hq, e3⟩
      all_goals
       go_wp2_with (first
        | (go_at_call 114; refine (hla _).mono ?_; rintro e w3 ⟨rfl, hb3⟩; have hg3 := hgA.later hb3; have hk3 := hkA.trans (KeptBut.of_below (hb3.mono hgA.le)); obtain ⟨_, _, ⟨y0, y1, y2, y3, y4⟩, _⟩ := HF.out _ hk3; obtain ⟨o3, of3⟩ := hg3.cell; have hlb3 := hlbox.out.below hb3; obtain ⟨l0, l1, l2, l3, l4⟩ := hlbox.out.below hb3; have hgB := fun o => hg3.later ((Below.refl _ w3).alloc (Nat.le_refl _) o); simp only [Nat.zero_add] at y0 y1 y2 y3 y4 l0 l1 l2 l3 l4)
        | (at_builtin; refine wpList_append_own _ rfl _ _ 23 rfl B 48 i0 (.agg #[.string ⟨#[]⟩, .int .i64 0, .int .i64 0, .string ⟨#[]⟩, .int .i64 0]) 5 56 Tryz.underlying23 hi hz0 hz1 hz2 rfl (by decide) _ _ _ rfl (hgB _).own ⟨_, 0, none⟩ 1 1 (encN ((a, r, bb), c, n)) rfl rfl (encN_cells _ ((a, r, bb), c, n) _ _ (by simp)) (encN_one _) (by unfold maxLen; omega) (by omega) (hgB _).le ?_; intro v2 w2 hown2 hgrow2 _; obtain ⟨ao2, k2, cp2, rfl⟩ := own_sliceN hown2; obtain ⟨d2, f2, hG2, hK2⟩ := (hgB _).more hown2 hgrow2; have hlx : Hid (LineAt (w2.setCell ⟨w.heap.size + 1 + 1 + 1 + 1, 0, none⟩ (.slice ao2 k2 cp2)) wr.heap.size 0 ((la, lr, lb), lc, lnn)) := more_line hgrow2 (hlb3.below ((Below.refl _ w3).alloc (Nat.le_refl _) _)) (fun e => by have := howl.out _ e; omega) (by have := hwrB.out; have := HB.out; have := HSz.out; omega); obtain ⟨z0, z1, z2, z3, z4⟩ := hlx.out; obtain ⟨oX, ofX⟩ := hG2.cell; have hgC := fun o => hG2.later ((Below.refl _ _).alloc (Nat.le_refl _) o); have hlen2 : (S01 ++ [((a, r, bb), c, n)]).length ≤ 202 := (by rw [List.length_append, List.length_singleton]; omega); clear hgB; simp only [Nat.zero_add] at z0 z1 z2 z3 z4)
        | (at_builtin; refine wpList_append_own _ rfl _ _ 23 rfl B 48 i0 (.agg #[.string ⟨#[]⟩, .int .i64 0, .int .i64 0, .string ⟨#[]⟩, .int .i64 0]) 5 56 Tryz.underlying23 hi hz0 hz1 hz2 rfl (by decide) _ _ _ rfl (hgC _).own ⟨_, 0, none⟩ 1 1 (encN ((la, lr, lb), lc, lnn)) rfl rfl (encN_cells _ ((la, lr, lb), lc, lnn) _ _ (by simp)) (encN_one _) (by unfold maxLen; omega) (by omega) (hgC _).le ?_; intro v4 w4 hown4 hgrow4 _; obtain ⟨ao4, k4, cp4, rfl⟩ := own_sliceN hown4; obtain ⟨d4, f4, hG4, hK4⟩ := (hgC _).more hown4 hgrow4))
       go_roundw
       case rel => exact ⟨k + 1, _, by omega, by go_num, by rw [HS2.out], by rw [HS2.out]; exact hG4, (((hk3.trans (KeptBut.of_below (((Below.refl _ w3).alloc (Nat.le_refl _) _).mono hg3.le))).trans hK2).trans (KeptBut.of_below (((Below.refl _ _).alloc (Nat.le_refl _) _).mono hG2.le))).trans hK4⟩
       case measure => simp [RowKit.intOf]; omega
  ·have e : m.take k = m := List.take_of_length_le (by rw [← HN.out]; omega)
   rw [e] at hga hlen
   have HFin : Hid (∀ (wf : World) (ve : Value) (o : List Ln), Gath B (w.heap.size + 1 + 1 + 1 + 1) o ve wf → KeptBut B (w.heap.size + 1 + 1 + 1 + 1) W wf → RefS (wf.setCell ⟨w.heap.size + 1 + 1, 0, none⟩ ve) ve o ∧ Below w.heap.size w (wf.setCell ⟨w.heap.size + 1 + 1, 0, none⟩ ve)) := fun wf ve o hg hk => by
    have hsz := HSz.out
    have hbe := HB.out
    refine ⟨ownsRow_setCell_other (Joins.ownsRow_le hg.own (Nat.zero_le _)) (fun e => by have := (hg.own.lt _ e).1; simp at this; omega) _, ?_⟩
    have hb0 := HW.out.below
    have hbf : Below w.heap.size w wf := hb0.trans ⟨hk.os, hk.tape, hk.output, hk.size, fun i hi => hk.block i (by omega) (by omega)⟩
    exact hbf.setCell (p := ⟨w.heap.size + 1 + 1, 0, none⟩) (by simp; omega) _
   have HWE' := HWE.out
   rw [e]
   have hlm : m.length ≤ 200 := by rw [← HN.out]; exact h200
   have hlw := wrun_short ((a, r, bb), c, n) z m
   clear e HSh HLA HE
   generalize wrun ((a, r, bb), c, n) z m = S0 at *
   obtain ⟨S01, S02⟩ := S0
   simp only at hga hlw
   obtain ⟨ao9, k9, cp9, rfl⟩ := own_sliceN hga.own
   have hrc : wr.cell? ⟨w.heap.size + 1 + 1, 0, none⟩ = some (.slice none 0 0) := by rw [cell_of_heap hres]; rfl
   have hrf : wr.frozen? ⟨w.heap.size + 1 + 1, 0, none⟩ = false := frozen_of_heap hres 0
   cases S02 with
   | true =>
    have HR : Hid (S01 = mR) := by show _ = _; rw [← HWE']; rfl
    clear HWE'
    go_wp2
    refine bodyPost_ret (v := .agg #[.slice ao9 k9 cp9]) (by simp [results, Tryz.results93, go_sem, hrc]) rfl ?_
    obtain ⟨r1, r2⟩ := HFin.out wr _ S01 hga hke
    exact ⟨_, rfl, by rw [← HR.out]; exact r1, r2⟩
   | false =>
    have HR : Hid (S01 ++ [((a, r, bb), c, n)] = mR) := by show _ = _; rw [← HWE']; rfl
    clear HWE'
    have hgB := fun o => hga.later ((Below.refl _ wr).alloc (Nat.le_refl _) o)
    have hkB := fun o => hke.trans (KeptBut.of_below (((Below.refl _ wr).alloc (Nat.le_refl _) o).mono hga.le))
    go_wp2_with (at_builtin; refine wpList_append_own _ rfl _ _ 23 rfl B 48 i0 (.agg #[.string ⟨#[]⟩, .int .i64 0, .int .i64 0, .string ⟨#[]⟩, .int .i64 0]) 5 56 Tryz.underlying23 hi hz0 hz1 hz2 rfl (by decide) _ _ _ rfl (hgB _).own ⟨_, 0, none⟩ 1 1 (encN ((a, r, bb), c, n)) rfl rfl (encN_cells _ ((a, r, bb), c, n) _ _ (by simp)) (encN_one _) (by unfold maxLen; omega) (by omega) (hgB _).le ?_; intro v2 w2 hown2 hgrow2 _; obtain ⟨ao2, k2, cp2, rfl⟩ := own_sliceN hown2; obtain ⟨d2, f2, hG2, hK2⟩ := (hgB _).more hown2 hgrow2; have hres2 := (HF.out _ ((hkB _).trans hK2)).2.2.2; have hrc2 : (w2.setCell ⟨w.heap.size + 1 + 1 + 1 + 1, 0, none⟩ (.slice ao2 k2 cp2)).cell? ⟨w.heap.size + 1 + 1, 0, none⟩ = some (.slice none 0 0) := (by rw [cell_of_heap hres2]; rfl); have hrf2 := frozen_of_heap hres2 0; obtain ⟨oX, ofX⟩ := hG2.cell)
    refine bodyPost_ret (v := .agg #[.slice ao2 k2 cp2]) (by simp [results, Tryz.results93, go_sem, hrc2]) rfl ?_
    obtain ⟨r1, r2⟩ := HFin.out _ _ (S01 ++ [((a, r, bb), c, n)]) hG2 ((hkB _).trans hK2)
    exact ⟨_, rfl, by rw [← HR.out]; exact r1, r2⟩
abbrev boxR3 (w : World) (v : Value) (x : Pl) : World := (boxR w v x).alloc (.cells #[.slice none 0 0] 76)
structure RefW (w W : World) (v : Value) (x : Pl) : Prop where
 below : Below w.heap.size w W
 cv : W.cell? ⟨w.heap.size, 0, none⟩ = some v
 bx : BoxAt (w.heap.size + 1) x W
 res : W.heap[w.heap.size + 1 + 1]? = some (.cells #[.slice none 0 0] 76 (0, 0))
theorem refW (w : World) (v : Value) (x : Pl) : RefW w (boxR3 w v x) v x := by
 have h0 := boxR_below w v x
 obtain ⟨h1, h2⟩ := boxR_cells w v x
 have s0 : (boxR w v x).heap.size = w.heap.size + 1 + 1 := by simp
 unfold boxR3
 generalize boxR w v x = W0 at *
 have hA : Below W0.heap.size W0 (W0.alloc (.cells #[.slice none 0 0] 76)) := (Below.refl _ _).alloc (Nat.le_refl _) _
 have nA := heap_alloc_new W0 (.cells #[.slice none 0 0] 76)
 rw [s0] at nA
 exact ⟨h0.trans (hA.mono h0.size), (hA.cell (p := ⟨w.heap.size, 0, none⟩) (by simp; omega)).trans h1, h2.below hA, nA⟩
theorem RefW.later {w W W' : World} {v : Value} {x : Pl} (h : RefW w W v x) (hb : Below W.heap.size W W') : RefW w W' v x :=
 ⟨h.below.trans (hb.mono h.below.size), (hb.cell (p := ⟨w.heap.size, 0, none⟩) (cell_lt h.cv)).trans h.cv, h.bx.below hb, (hb.block _ (Array.getElem?_eq_some_iff.1 h.res).1).trans h.res⟩
theorem RefW.cells {w W : World} {v : Value} {x : Pl} (h : RefW w W v x) : W.cell? ⟨w.heap.size + 1 + 1, 0, none⟩ = some (.slice none 0 0) ∧ W.frozen? ⟨w.heap.size + 1 + 1, 0, none⟩ = false := ⟨by rw [cell_of_heap h.res]; rfl, frozen_of_heap h.res 0⟩
theorem ref_fin {w W wf : World} {v ve : Value} {x : Pl} {m' : List Ln} (hW : RefW w W v x) (hb : Below W.heap.size W wf) (hr : RefS wf ve m') : RefS (wf.setCell ⟨w.heap.size + 1 + 1, 0, none⟩ ve) ve m' ∧ Below w.heap.size w (wf.setCell ⟨w.heap.size + 1 + 1, 0, none⟩ ve) := by
 have hf := hW.later hb
 refine ⟨ownsRow_setCell_other hr (fun e => ?_) _, hf.below.setCell (p := ⟨w.heap.size + 1 + 1, 0, none⟩) (by simp; omega) _⟩
 obtain ⟨c, fz, hc⟩ := ownsRow_kind hr _ e
 have := hf.res
 rw [hc] at this
 simp at this
theorem refPut_place (v : Value) (m : List Ln) (x : Pl) (c : ByteArray) (n : Int) (w : World) (h : RefS w v m) (_hw : Wf m) (hz : x.1.size ≤ maxLen) (h0 : placeErr x ≠ 0) :
  Calls Tryz.prog 62 #[.agg #[v], agP x, .string c, .int .i64 n] w fun e w' => ∃ v', e = .returned (.tuple #[.agg #[v'], .int .i64 (placeErr x)]) ∧ RefS w' v' (m) ∧ Below w.heap.size w w' := by
 have hP := fun w1 => placeError_any x w1 hz
 obtain ⟨ao, cap, rfl, _⟩ := h.shape
 have hW := refW w (.slice ao m.length cap) x
 have HFin : Hid (∀ (wf : World) (ve : Value) (m' : List Ln), RefS wf ve m' → Below (boxR3 w (.slice ao m.length cap) x).heap.size (boxR3 w (.slice ao m.length cap) x) wf → RefS (wf.setCell ⟨w.heap.size + 1 + 1, 0, none⟩ ve) ve m' ∧ Below w.heap.size w (wf.setCell ⟨w.heap.size + 1 + 1, 0, none⟩ ve)) := fun wf ve m' hr hb => ref_fin hW hb hr
 have HR : Hid (∀ wf, Below (boxR3 w (.slice ao m.length cap) x).heap.size (boxR3 w (.slice ao m.length cap) x) wf → RefS wf (.slice ao m.length cap) m) := fun wf hb => (h.all hW.below).all hb
 have HK : Hid (∀ wf, Below (boxR3 w (.slice ao m.length cap) x).heap.size (boxR3 w (.slice ao m.length cap) x) wf → RefW w wf (.slice ao m.length cap) x) := fun wf hb => hW.later hb
 have hE : (0 : Int) < (placeErr x : Int) := by omega
 generalize placeErr x = E at *
 obtain ⟨a, r, bb⟩ := x
 unfold agP boxR3 boxR at *
 simp only at *
 obtain ⟨f0, ⟨p0, p1, p2⟩⟩ : _ ∧ _ := ⟨hW.cv, hW.bx⟩
 obtain ⟨g0, g1⟩ := hW.cells
 simp only at p0 p1 p2
 clear hW h
 generalize hln : m.length = ln at *
 have HLn : Hid (m.length = ln) := hln
 clear hln
 go_enter Tryz.func62, Tryz.ntmps62
 go_wp2_with (go_at_call 42; refine (hP _).mono ?_; rintro e w1 ⟨rfl, hb1⟩; have hB1 := hb1; obtain ⟨q10, q11, q12⟩ := (HK.out _ hB1).bx; have q13 := (HK.out _ hB1).cv; obtain ⟨q14, q15⟩ := (HK.out _ hB1).cells; simp only at q10 q11 q12)
 refine bodyPost_ret (v := .tuple #[.agg #[(.slice ao ln cap)], .int .i64 E]) (by simp [results, Tryz.results62, go_sem, q14]) rfl ?_
 obtain ⟨r1, r2⟩ := HFin.out _ _ _ (HR.out _ (hB1)) (hB1)
 exact ⟨_, rfl, r1, r2⟩
theorem refPut_name (v : Value) (m : List Ln) (x : Pl) (c : ByteArray) (n : Int) (w : World) (h : RefS w v m) (_hw : Wf m) (hz : x.1.size ≤ maxLen) (hz' : c.size ≤ maxLen) (h0 : placeErr x = 0) (h1 : isName c.data.toList = false) :
  Calls Tryz.prog 62 #[.agg #[v], agP x, .string c, .int .i64 n] w fun e w' => ∃ v', e = .returned (.tuple #[.agg #[v'], .int .i64 (5)]) ∧ RefS w' v' (m) ∧ Below w.heap.size w w' := by
 have hP := fun w1 => placeError_any x w1 hz
 have hN : ∀ w, Calls Tryz.prog 43 #[.string c] w _ := fun w => isName_any c w hz'
 rw [h0] at hP
 rw [h1] at hN
 obtain ⟨ao, cap, rfl, _⟩ := h.shape
 have hW := refW w (.slice ao m.length cap) x
 have HFin : Hid (∀ (wf : World) (ve : Value) (m' : List Ln), RefS wf ve m' → Below (boxR3 w (.slice ao m.length cap) x).heap.size (boxR3 w (.slice ao m.length cap) x) wf → RefS (wf.setCell ⟨w.heap.size + 1 + 1, 0, none⟩ ve) ve m' ∧ Below w.heap.size w (wf.setCell ⟨w.heap.size + 1 + 1, 0, none⟩ ve)) := fun wf ve m' hr hb => ref_fin hW hb hr
 have HR : Hid (∀ wf, Below (boxR3 w (.slice ao m.length cap) x).heap.size (boxR3 w (.slice ao m.length cap) x) wf → RefS wf (.slice ao m.length cap) m) := fun wf hb => (h.all hW.below).all hb
 have HK : Hid (∀ wf, Below (boxR3 w (.slice ao m.length cap) x).heap.size (boxR3 w (.slice ao m.length cap) x) wf → RefW w wf (.slice ao m.length cap) x) := fun wf hb => hW.later hb
 obtain ⟨a, r, bb⟩ := x
 unfold agP boxR3 boxR at *
 simp only at *
 obtain ⟨f0, ⟨p0, p1, p2⟩⟩ : _ ∧ _ := ⟨hW.cv, hW.bx⟩
 obtain ⟨g0, g1⟩ := hW.cells
 simp only at p0 p1 p2
 clear hW h
 generalize hln : m.length = ln at *
 have HLn : Hid (m.length = ln) := hln
 clear hln
 go_enter Tryz.func62, Tryz.ntmps62
 go_wp2_with (first
  | (go_at_call 42; refine (hP _).mono ?_; rintro e w1 ⟨rfl, hb1⟩; have hB1 := hb1; obtain ⟨q10, q11, q12⟩ := (HK.out _ hB1).bx; have q13 := (HK.out _ hB1).cv; obtain ⟨q14, q15⟩ := (HK.out _ hB1).cells; simp only at q10 q11 q12)
  | (go_at_call 43; refine (hN _).mono ?_; rintro e w2 ⟨rfl, rfl⟩))
 refine bodyPost_ret (v := .tuple #[.agg #[(.slice ao ln cap)], .int .i64 5]) (by simp [results, Tryz.results62, go_sem, q14]) rfl ?_
 obtain ⟨r1, r2⟩ := HFin.out _ _ _ (HR.out _ (hB1)) (hB1)
 exact ⟨_, rfl, r1, r2⟩
theorem refPut_num (v : Value) (m : List Ln) (x : Pl) (c : ByteArray) (n : Int) (w : World) (h : RefS w v m) (_hw : Wf m) (hz : x.1.size ≤ maxLen) (hz' : c.size ≤ maxLen) (h0 : placeErr x = 0) (h1 : isName c.data.toList = true) (h2 : n < 1 ∨ (1 ≤ n ∧ 1099511627776 < n)) :
  Calls Tryz.prog 62 #[.agg #[v], agP x, .string c, .int .i64 n] w fun e w' => ∃ v', e = .returned (.tuple #[.agg #[v'], .int .i64 (2)]) ∧ RefS w' v' (m) ∧ Below w.heap.size w w' := by
 have hP := fun w1 => placeError_any x w1 hz
 have hN : ∀ w, Calls Tryz.prog 43 #[.string c] w _ := fun w => isName_any c w hz'
 rw [h0] at hP
 rw [h1] at hN
 obtain ⟨ao, cap, rfl, _⟩ := h.shape
 have hW := refW w (.slice ao m.length cap) x
 have HFin : Hid (∀ (wf : World) (ve : Value) (m' : List Ln), RefS wf ve m' → Below (boxR3 w (.slice ao m.length cap) x).heap.size (boxR3 w (.slice ao m.length cap) x) wf → RefS (wf.setCell ⟨w.heap.size + 1 + 1, 0, none⟩ ve) ve m' ∧ Below w.heap.size w (wf.setCell ⟨w.heap.size + 1 + 1, 0, none⟩ ve)) := fun wf ve m' hr hb => ref_fin hW hb hr
 have HR : Hid (∀ wf, Below (boxR3 w (.slice ao m.length cap) x).heap.size (boxR3 w (.slice ao m.length cap) x) wf → RefS wf (.slice ao m.length cap) m) := fun wf hb => (h.all hW.below).all hb
 have HK : Hid (∀ wf, Below (boxR3 w (.slice ao m.length cap) x).heap.size (boxR3 w (.slice ao m.length cap) x) wf → RefW w wf (.slice ao m.length cap) x) := fun wf hb => hW.later hb
 obtain ⟨a, r, bb⟩ := x
 unfold agP boxR3 boxR at *
 simp only at *
 obtain ⟨f0, ⟨p0, p1, p2⟩⟩ : _ ∧ _ := ⟨hW.cv, hW.bx⟩
 obtain ⟨g0, g1⟩ := hW.cells
 simp only at p0 p1 p2
 clear hW h
 generalize hln : m.length = ln at *
 have HLn : Hid (m.length = ln) := hln
 clear hln
 rcases h2 with h2 | ⟨h2, h3⟩
 all_goals
  go_enter Tryz.func62, Tryz.ntmps62
  go_wp2_with (first
   | (go_at_call 42; refine (hP _).mono ?_; rintro e w1 ⟨rfl, hb1⟩; have hB1 := hb1; obtain ⟨q10, q11, q12⟩ := (HK.out _ hB1).bx; have q13 := (HK.out _ hB1).cv; obtain ⟨q14, q15⟩ := (HK.out _ hB1).cells; simp only at q10 q11 q12)
   | (go_at_call 43; refine (hN _).mono ?_; rintro e w2 ⟨rfl, rfl⟩))
  refine bodyPost_ret (v := .tuple #[.agg #[(.slice ao ln cap)], .int .i64 2]) (by simp [results, Tryz.results62, go_sem, q14]) rfl ?_
  obtain ⟨r1, r2⟩ := HFin.out _ _ _ (HR.out _ (hB1)) (hB1)
  exact ⟨_, rfl, r1, r2⟩
theorem refPut_sum (v : Value) (m : List Ln) (x : Pl) (c : ByteArray) (n : Int) (w : World) (h : RefS w v m) (hw : Wf m) (hz : x.1.size ≤ maxLen) (hz' : c.size ≤ maxLen) (h0 : placeErr x = 0) (h1 : isName c.data.toList = true) (n1 : 1 ≤ n) (n2 : n ≤ 1099511627776) (h3 : 1099511627776 < ofL m c + n) :
  Calls Tryz.prog 62 #[.agg #[v], agP x, .string c, .int .i64 n] w fun e w' => ∃ v', e = .returned (.tuple #[.agg #[v'], .int .i64 (2)]) ∧ RefS w' v' (m) ∧ Below w.heap.size w w' := by
 have hP := fun w1 => placeError_any x w1 hz
 have hN : ∀ w, Calls Tryz.prog 43 #[.string c] w _ := fun w => isName_any c w hz'
 rw [h0] at hP
 rw [h1] at hN
 obtain ⟨ao, cap, rfl, _⟩ := h.shape
 have hW := refW w (.slice ao m.length cap) x
 have HFin : Hid (∀ (wf : World) (ve : Value) (m' : List Ln), RefS wf ve m' → Below (boxR3 w (.slice ao m.length cap) x).heap.size (boxR3 w (.slice ao m.length cap) x) wf → RefS (wf.setCell ⟨w.heap.size + 1 + 1, 0, none⟩ ve) ve m' ∧ Below w.heap.size w (wf.setCell ⟨w.heap.size + 1 + 1, 0, none⟩ ve)) := fun wf ve m' hr hb => ref_fin hW hb hr
 have HR : Hid (∀ wf, Below (boxR3 w (.slice ao m.length cap) x).heap.size (boxR3 w (.slice ao m.length cap) x) wf → RefS wf (.slice ao m.length cap) m) := fun wf hb => (h.all hW.below).all hb
 have HK : Hid (∀ wf, Below (boxR3 w (.slice ao m.length cap) x).heap.size (boxR3 w (.slice ao m.length cap) x) wf → RefW w wf (.slice ao m.length cap) x) := fun wf hb => hW.later hb
 have HO : Hid (∀ wf, Below (boxR3 w (.slice ao m.length cap) x).heap.size (boxR3 w (.slice ao m.length cap) x) wf → Calls Tryz.prog 65 #[.agg #[.slice ao m.length cap], .string c] wf fun e w' => e = .returned (.int .i64 (ofL m c)) ∧ Below wf.heap.size wf w') := fun wf hb => refOf_any _ m c wf (HR.out wf hb) hw
 obtain ⟨o1, o2⟩ := hw.of_bound c
 generalize ofL m c = O at *
 obtain ⟨a, r, bb⟩ := x
 unfold agP boxR3 boxR at *
 simp only at *
 obtain ⟨f0, ⟨p0, p1, p2⟩⟩ : _ ∧ _ := ⟨hW.cv, hW.bx⟩
 obtain ⟨g0, g1⟩ := hW.cells
 simp only at p0 p1 p2
 clear hW h hw
 generalize hln : m.length = ln at *
 have HLn : Hid (m.length = ln) := hln
 clear hln
 go_enter Tryz.func62, Tryz.ntmps62
 go_wp2_with (first
  | (go_at_call 42; refine (hP _).mono ?_; rintro e w1 ⟨rfl, hb1⟩; have hB1 := hb1; obtain ⟨q10, q11, q12⟩ := (HK.out _ hB1).bx; have q13 := (HK.out _ hB1).cv; obtain ⟨q14, q15⟩ := (HK.out _ hB1).cells; simp only at q10 q11 q12)
  | (go_at_call 43; refine (hN _).mono ?_; rintro e w2 ⟨rfl, rfl⟩)
  | (go_at_call 65; refine (HO.out _ hB1).mono ?_; rintro e w4 ⟨rfl, hb4⟩; have hB4 := hB1.trans (hb4.mono hB1.size); obtain ⟨q40, q41, q42⟩ := (HK.out _ hB4).bx; have q43 := (HK.out _ hB4).cv; obtain ⟨q44, q45⟩ := (HK.out _ hB4).cells; simp only at q40 q41 q42))
 refine bodyPost_ret (v := .tuple #[.agg #[(.slice ao ln cap)], .int .i64 2]) (by simp [results, Tryz.results62, go_sem, q44]) rfl ?_
 obtain ⟨r1, r2⟩ := HFin.out _ _ _ (HR.out _ (hB4)) (hB4)
 exact ⟨_, rfl, r1, r2⟩
theorem refPut_full (v : Value) (m : List Ln) (x : Pl) (c : ByteArray) (n : Int) (w : World) (h : RefS w v m) (hw : Wf m) (hz : x.1.size ≤ maxLen) (hz' : c.size ≤ maxLen) (h0 : placeErr x = 0) (h1 : isName c.data.toList = true) (n1 : 1 ≤ n) (n2 : n ≤ 1099511627776) (h3 : ofL m c + n ≤ 1099511627776) (h4 : findR m (x, c) = -1) (h5 : 200 ≤ m.length) :
  Calls Tryz.prog 62 #[.agg #[v], agP x, .string c, .int .i64 n] w fun e w' => ∃ v', e = .returned (.tuple #[.agg #[v'], .int .i64 (8)]) ∧ RefS w' v' (m) ∧ Below w.heap.size w w' := by
 have hP := fun w1 => placeError_any x w1 hz
 have hN : ∀ w, Calls Tryz.prog 43 #[.string c] w _ := fun w => isName_any c w hz'
 rw [h0] at hP
 rw [h1] at hN
 obtain ⟨ao, cap, rfl, _⟩ := h.shape
 have hW := refW w (.slice ao m.length cap) x
 have HFin : Hid (∀ (wf : World) (ve : Value) (m' : List Ln), RefS wf ve m' → Below (boxR3 w (.slice ao m.length cap) x).heap.size (boxR3 w (.slice ao m.length cap) x) wf → RefS (wf.setCell ⟨w.heap.size + 1 + 1, 0, none⟩ ve) ve m' ∧ Below w.heap.size w (wf.setCell ⟨w.heap.size + 1 + 1, 0, none⟩ ve)) := fun wf ve m' hr hb => ref_fin hW hb hr
 have HR : Hid (∀ wf, Below (boxR3 w (.slice ao m.length cap) x).heap.size (boxR3 w (.slice ao m.length cap) x) wf → RefS wf (.slice ao m.length cap) m) := fun wf hb => (h.all hW.below).all hb
 have HK : Hid (∀ wf, Below (boxR3 w (.slice ao m.length cap) x).heap.size (boxR3 w (.slice ao m.length cap) x) wf → RefW w wf (.slice ao m.length cap) x) := fun wf hb => hW.later hb
 have HO : Hid (∀ wf, Below (boxR3 w (.slice ao m.length cap) x).heap.size (boxR3 w (.slice ao m.length cap) x) wf → Calls Tryz.prog 65 #[.agg #[.slice ao m.length cap], .string c] wf fun e w' => e = .returned (.int .i64 (ofL m c)) ∧ Below wf.heap.size wf w') := fun wf hb => refOf_any _ m c wf (HR.out wf hb) hw
 obtain ⟨o1, o2⟩ := hw.of_bound c
 have HFi : Hid (∀ wf, Below (boxR3 w (.slice ao m.length cap) x).heap.size (boxR3 w (.slice ao m.length cap) x) wf → Calls Tryz.prog 82 #[.agg #[.slice ao m.length cap], agP x, .string c] wf fun e w' => e = .returned (.int .i64 (findR m (x, c))) ∧ Below wf.heap.size wf w') := fun wf hb => find_any _ m x c wf (HR.out wf hb) hw.len
 rw [h4] at HFi
 have h6 := hw.len
 generalize ofL m c = O at *
 clear h4
 obtain ⟨a, r, bb⟩ := x
 unfold agP boxR3 boxR at *
 simp only at *
 obtain ⟨f0, ⟨p0, p1, p2⟩⟩ : _ ∧ _ := ⟨hW.cv, hW.bx⟩
 obtain ⟨g0, g1⟩ := hW.cells
 simp only at p0 p1 p2
 clear hW h hw
 generalize hln : m.length = ln at *
 have HLn : Hid (m.length = ln) := hln
 clear hln
 go_enter Tryz.func62, Tryz.ntmps62
 go_wp2_with (first
  | (go_at_call 42; refine (hP _).mono ?_; rintro e w1 ⟨rfl, hb1⟩; have hB1 := hb1; obtain ⟨q10, q11, q12⟩ := (HK.out _ hB1).bx; have q13 := (HK.out _ hB1).cv; obtain ⟨q14, q15⟩ := (HK.out _ hB1).cells; simp only at q10 q11 q12)
  | (go_at_call 43; refine (hN _).mono ?_; rintro e w2 ⟨rfl, rfl⟩)
  | (go_at_call 65; refine (HO.out _ hB1).mono ?_; rintro e w4 ⟨rfl, hb4⟩; have hB4 := hB1.trans (hb4.mono hB1.size); obtain ⟨q40, q41, q42⟩ := (HK.out _ hB4).bx; have q43 := (HK.out _ hB4).cv; obtain ⟨q44, q45⟩ := (HK.out _ hB4).cells; simp only at q40 q41 q42)
  | (go_at_call 82; refine (HFi.out _ hB4).mono ?_; rintro e w5 ⟨rfl, hb5⟩; have hB5 := hB4.trans (hb5.mono hB4.size); obtain ⟨q50, q51, q52⟩ := (HK.out _ hB5).bx; have q53 := (HK.out _ hB5).cv; obtain ⟨q54, q55⟩ := (HK.out _ hB5).cells; simp only at q50 q51 q52))
 refine bodyPost_ret (v := .tuple #[.agg #[(.slice ao ln cap)], .int .i64 8]) (by simp [results, Tryz.results62, go_sem, q54]) rfl ?_
 obtain ⟨r1, r2⟩ := HFin.out _ _ _ (HR.out _ (hB5)) (hB5)
 exact ⟨_, rfl, r1, r2⟩
theorem refPut_in (v : Value) (m : List Ln) (x : Pl) (c : ByteArray) (n : Int) (w : World) (h : RefS w v m) (hw : Wf m) (hz : x.1.size ≤ maxLen) (hz' : c.size ≤ maxLen) (h0 : placeErr x = 0) (h1 : isName c.data.toList = true) (n1 : 1 ≤ n) (n2 : n ≤ 1099511627776) (h3 : ofL m c + n ≤ 1099511627776) (h4 : (findR m (x, c) = -1 ∧ m.length < 200) ∨ 0 ≤ findR m (x, c)) :
  Calls Tryz.prog 62 #[.agg #[v], agP x, .string c, .int .i64 n] w fun e w' => ∃ v', e = .returned (.tuple #[.agg #[v'], .int .i64 (0)]) ∧ RefS w' v' (withL m (x, c) (atL m (x, c) + n)) ∧ Below w.heap.size w w' := by
 have hP := fun w1 => placeError_any x w1 hz
 have hN : ∀ w, Calls Tryz.prog 43 #[.string c] w _ := fun w => isName_any c w hz'
 rw [h0] at hP
 rw [h1] at hN
 obtain ⟨ao, cap, rfl, _⟩ := h.shape
 have hW := refW w (.slice ao m.length cap) x
 have HFin : Hid (∀ (wf : World) (ve : Value) (m' : List Ln), RefS wf ve m' → Below (boxR3 w (.slice ao m.length cap) x).heap.size (boxR3 w (.slice ao m.length cap) x) wf → RefS (wf.setCell ⟨w.heap.size + 1 + 1, 0, none⟩ ve) ve m' ∧ Below w.heap.size w (wf.setCell ⟨w.heap.size + 1 + 1, 0, none⟩ ve)) := fun wf ve m' hr hb => ref_fin hW hb hr
 have HR : Hid (∀ wf, Below (boxR3 w (.slice ao m.length cap) x).heap.size (boxR3 w (.slice ao m.length cap) x) wf → RefS wf (.slice ao m.length cap) m) := fun wf hb => (h.all hW.below).all hb
 have HK : Hid (∀ wf, Below (boxR3 w (.slice ao m.length cap) x).heap.size (boxR3 w (.slice ao m.length cap) x) wf → RefW w wf (.slice ao m.length cap) x) := fun wf hb => hW.later hb
 have HO : Hid (∀ wf, Below (boxR3 w (.slice ao m.length cap) x).heap.size (boxR3 w (.slice ao m.length cap) x) wf → Calls Tryz.prog 65 #[.agg #[.slice ao m.length cap], .string c] wf fun e w' => e = .returned (.int .i64 (ofL m c)) ∧ Below wf.heap.size wf w') := fun wf hb => refOf_any _ m c wf (HR.out wf hb) hw
 obtain ⟨o1, o2⟩ := hw.of_bound c
 have HFi : Hid (∀ wf, Below (boxR3 w (.slice ao m.length cap) x).heap.size (boxR3 w (.slice ao m.length cap) x) wf → Calls Tryz.prog 82 #[.agg #[.slice ao m.length cap], agP x, .string c] wf fun e w' => e = .returned (.int .i64 (findR m (x, c))) ∧ Below wf.heap.size wf w') := fun wf hb => find_any _ m x c wf (HR.out wf hb) hw.len
 have HAt : Hid (∀ wf, Below (boxR3 w (.slice ao m.length cap) x).heap.size (boxR3 w (.slice ao m.length cap) x) wf → Calls Tryz.prog 52 #[.agg #[.slice ao m.length cap], agP x, .string c] wf fun e w' => e = .returned (.int .i64 (atL m (x, c))) ∧ Below wf.heap.size wf w') := fun wf hb => refAt_any _ m x c wf (HR.out wf hb) hw.len hw.sorted
 have v1 := hw.at_nonneg (x, c)
 have v2 : atL m (x, c) ≤ 1099511627776 := Int.le_trans (hw.at_le (x, c)) (hw.most _)
 have HWi : Hid (∀ wf, Below (boxR3 w (.slice ao m.length cap) x).heap.size (boxR3 w (.slice ao m.length cap) x) wf → Calls Tryz.prog 93 #[.agg #[.slice ao m.length cap], agP x, .string c, .int .i64 (atL m (x, c) + n)] wf fun e w' => ∃ v', e = .returned (.agg #[v']) ∧ RefS w' v' (withL m (x, c) (atL m (x, c) + n)) ∧ Below wf.heap.size wf w') := fun wf hb => with_any _ m x c _ wf (HR.out wf hb) hw.len
 have h6 := hw.len
 generalize ofL m c = O at *
 generalize withL m (x, c) (atL m (x, c) + n) = M at *
 generalize atL m (x, c) = V at *
 generalize findR m (x, c) = F at *
 obtain ⟨a, r, bb⟩ := x
 unfold agP boxR3 boxR at *
 simp only at *
 obtain ⟨f0, ⟨p0, p1, p2⟩⟩ : _ ∧ _ := ⟨hW.cv, hW.bx⟩
 obtain ⟨g0, g1⟩ := hW.cells
 simp only at p0 p1 p2
 clear hW h hw
 generalize hln : m.length = ln at *
 have HLn : Hid (m.length = ln) := hln
 clear hln
 have hwr : IntKind.i64.wrap (V + n) = V + n := by rw [IntKind.wrap_i64]; omega
 rcases h4 with ⟨rfl, h4⟩ | h4
 all_goals
  go_enter Tryz.func62, Tryz.ntmps62
  go_wp2_with (first
   | (go_at_call 42; refine (hP _).mono ?_; rintro e w1 ⟨rfl, hb1⟩; have hB1 := hb1; obtain ⟨q10, q11, q12⟩ := (HK.out _ hB1).bx; have q13 := (HK.out _ hB1).cv; obtain ⟨q14, q15⟩ := (HK.out _ hB1).cells; simp only at q10 q11 q12)
   | (go_at_call 43; refine (hN _).mono ?_; rintro e w2 ⟨rfl, rfl⟩)
   | (go_at_call 65; refine (HO.out _ hB1).mono ?_; rintro e w4 ⟨rfl, hb4⟩; have hB4 := hB1.trans (hb4.mono hB1.size); obtain ⟨q40, q41, q42⟩ := (HK.out _ hB4).bx; have q43 := (HK.out _ hB4).cv; obtain ⟨q44, q45⟩ := (HK.out _ hB4).cells; simp only at q40 q41 q42)
   | (go_at_call 82; refine (HFi.out _ hB4).mono ?_; rintro e w5 ⟨rfl, hb5⟩; have hB5 := hB4.trans (hb5.mono hB4.size); obtain ⟨q50, q51, q52⟩ := (HK.out _ hB5).bx; have q53 := (HK.out _ hB5).cv; obtain ⟨q54, q55⟩ := (HK.out _ hB5).cells; simp only at q50 q51 q52))
  have hB6 := hB5.drew
  go_region_held3 (fun w' => w'.cell? ⟨w.heap.size, 0, none⟩ = some (.slice ao ln cap) ∧ w'.cell? ⟨w.heap.size + 1, 0, none⟩ = some (.string a) ∧ w'.cell? ⟨w.heap.size + 1, 1, none⟩ = some (.int .i64 r) ∧ w'.cell? ⟨w.heap.size + 1, 2, none⟩ = some (.int .i64 bb)) (go_keep)
   (first
    | (go_at_call 52; refine (HAt.out _ hB6).mono ?_; rintro e w7 ⟨rfl, hb7⟩; have hB7 := hB6.trans (hb7.mono hB6.size); obtain ⟨q70, q71, q72⟩ := (HK.out _ hB7).bx; have q73 := (HK.out _ hB7).cv; obtain ⟨q74, q75⟩ := (HK.out _ hB7).cells; simp only at q70 q71 q72)
    | (go_at_call 93; refine (HWi.out _ hB7).mono ?_; rintro e w8 ⟨v8, rfl, hr8, hb8⟩; obtain ⟨ao8, k8, cp8, rfl⟩ := own_sliceN hr8; have hB8 := hB7.trans (hb8.mono hB7.size); obtain ⟨q80, q81, q82⟩ := (HK.out _ hB8).bx; have q83 := (HK.out _ hB8).cv; obtain ⟨q84, q85⟩ := (HK.out _ hB8).cells; have q86 : (w8.setCell ⟨w.heap.size + 1 + 1, 0, none⟩ (.slice ao8 k8 cp8)).cell? ⟨w.heap.size, 0, none⟩ = some (.slice ao ln cap) := (World.cell?_of_block (a := ⟨w.heap.size, 0, none⟩) (Below.heap_setCell w8 ⟨w.heap.size + 1 + 1, 0, none⟩ _ w.heap.size (by simp; omega))).trans q83; simp only at q80 q81 q82))
  go_wp2
  refine bodyPost_ret (v := .tuple #[.agg #[(.slice ao8 k8 cp8)], .int .i64 0]) (by simp [results, Tryz.results62, go_sem, q84]) rfl ?_
  obtain ⟨r1, r2⟩ := HFin.out _ _ _ (hr8) (hB8)
  exact ⟨_, rfl, r1, r2⟩
theorem refTake_num (v : Value) (m : List Ln) (x : Pl) (c : ByteArray) (n : Int) (w : World) (h : RefS w v m) (_hw : Wf m) (h2 : n < 1 ∨ (1 ≤ n ∧ 1099511627776 < n)) :
  Calls Tryz.prog 63 #[.agg #[v], agP x, .string c, .int .i64 n] w fun e w' => ∃ v', e = .returned (.tuple #[.agg #[v'], .int .i64 (2)]) ∧ RefS w' v' (m) ∧ Below w.heap.size w w' := by
 obtain ⟨ao, cap, rfl, _⟩ := h.shape
 have HR0 : Hid (∀ o, RefS ((boxR w (.slice ao m.length cap) x).alloc o) (.slice ao m.length cap) m ∧ Below w.heap.size w ((boxR w (.slice ao m.length cap) x).alloc o)) := fun o => by
  have hb := (boxR_below w (.slice ao m.length cap) x).alloc (boxR_below w (.slice ao m.length cap) x).size o
  exact ⟨h.all hb, hb⟩
 obtain ⟨f0, _⟩ := boxR_cells w (.slice ao m.length cap) x
 obtain ⟨a, r, bb⟩ := x
 unfold agP boxR at *
 simp only at *
 clear h
 generalize m.length = ln at *
 rcases h2 with h2 | ⟨h2, h3⟩
 all_goals
  go_enter Tryz.func63, Tryz.ntmps63
  go_wp2
  refine bodyPost_ret (v := .tuple #[.agg #[.slice ao ln cap], .int .i64 2]) (by simp [results, Tryz.results63, go_sem]) rfl ?_
  exact ⟨_, rfl, (HR0.out _).1, (HR0.out _).2⟩
theorem refTake_short (v : Value) (m : List Ln) (x : Pl) (c : ByteArray) (n : Int) (w : World) (h : RefS w v m) (hw : Wf m) (n1 : 1 ≤ n) (n2 : n ≤ 1099511627776) (h3 : atL m (x, c) < n) :
  Calls Tryz.prog 63 #[.agg #[v], agP x, .string c, .int .i64 n] w fun e w' => ∃ v', e = .returned (.tuple #[.agg #[v'], .int .i64 (9)]) ∧ RefS w' v' (m) ∧ Below w.heap.size w w' := by
 obtain ⟨ao, cap, rfl, _⟩ := h.shape
 have hW := refW w (.slice ao m.length cap) x
 have HFin : Hid (∀ (wf : World) (ve : Value) (m' : List Ln), RefS wf ve m' → Below (boxR3 w (.slice ao m.length cap) x).heap.size (boxR3 w (.slice ao m.length cap) x) wf → RefS (wf.setCell ⟨w.heap.size + 1 + 1, 0, none⟩ ve) ve m' ∧ Below w.heap.size w (wf.setCell ⟨w.heap.size + 1 + 1, 0, none⟩ ve)) := fun wf ve m' hr hb => ref_fin hW hb hr
 have HR : Hid (∀ wf, Below (boxR3 w (.slice ao m.length cap) x).heap.size (boxR3 w (.slice ao m.length cap) x) wf → RefS wf (.slice ao m.length cap) m) := fun wf hb => (h.all hW.below).all hb
 have HK : Hid (∀ wf, Below (boxR3 w (.slice ao m.length cap) x).heap.size (boxR3 w (.slice ao m.length cap) x) wf → RefW w wf (.slice ao m.length cap) x) := fun wf hb => hW.later hb
 have hBB := Below.refl (boxR3 w (.slice ao m.length cap) x).heap.size (boxR3 w (.slice ao m.length cap) x)
 have HAt : Hid (∀ wf, Below (boxR3 w (.slice ao m.length cap) x).heap.size (boxR3 w (.slice ao m.length cap) x) wf → Calls Tryz.prog 52 #[.agg #[.slice ao m.length cap], agP x, .string c] wf fun e w' => e = .returned (.int .i64 (atL m (x, c))) ∧ Below wf.heap.size wf w') := fun wf hb => refAt_any _ m x c wf (HR.out wf hb) hw.len hw.sorted
 have v1 := hw.at_nonneg (x, c)
 have v2 : atL m (x, c) ≤ 1099511627776 := Int.le_trans (hw.at_le (x, c)) (hw.most _)
 generalize atL m (x, c) = V at *
 obtain ⟨a, r, bb⟩ := x
 unfold agP boxR3 boxR at *
 simp only at *
 obtain ⟨f0, ⟨p0, p1, p2⟩⟩ : _ ∧ _ := ⟨hW.cv, hW.bx⟩
 obtain ⟨g0, g1⟩ := hW.cells
 simp only at p0 p1 p2
 clear hW h hw
 generalize hln : m.length = ln at *
 have HLn : Hid (m.length = ln) := hln
 clear hln
 go_enter Tryz.func63, Tryz.ntmps63
 go_wp2_with (go_at_call 52; refine (HAt.out _ hBB).mono ?_; rintro e w7 ⟨rfl, hb7⟩; have hB7 := hBB.trans (hb7.mono hBB.size); obtain ⟨q70, q71, q72⟩ := (HK.out _ hB7).bx; have q73 := (HK.out _ hB7).cv; obtain ⟨q74, q75⟩ := (HK.out _ hB7).cells; simp only at q70 q71 q72)
 refine bodyPost_ret (v := .tuple #[.agg #[(.slice ao ln cap)], .int .i64 9]) (by simp [results, Tryz.results63, go_sem, q74]) rfl ?_
 obtain ⟨r1, r2⟩ := HFin.out _ _ _ (HR.out _ (hB7)) (hB7)
 exact ⟨_, rfl, r1, r2⟩
theorem refTake_in (v : Value) (m : List Ln) (x : Pl) (c : ByteArray) (n : Int) (w : World) (h : RefS w v m) (hw : Wf m) (n1 : 1 ≤ n) (n2 : n ≤ 1099511627776) (h3 : n ≤ atL m (x, c)) :
  Calls Tryz.prog 63 #[.agg #[v], agP x, .string c, .int .i64 n] w fun e w' => ∃ v', e = .returned (.tuple #[.agg #[v'], .int .i64 (0)]) ∧ RefS w' v' (withL m (x, c) (atL m (x, c) - n)) ∧ Below w.heap.size w w' := by
 obtain ⟨ao, cap, rfl, _⟩ := h.shape
 have hW := refW w (.slice ao m.length cap) x
 have HFin : Hid (∀ (wf : World) (ve : Value) (m' : List Ln), RefS wf ve m' → Below (boxR3 w (.slice ao m.length cap) x).heap.size (boxR3 w (.slice ao m.length cap) x) wf → RefS (wf.setCell ⟨w.heap.size + 1 + 1, 0, none⟩ ve) ve m' ∧ Below w.heap.size w (wf.setCell ⟨w.heap.size + 1 + 1, 0, none⟩ ve)) := fun wf ve m' hr hb => ref_fin hW hb hr
 have HR : Hid (∀ wf, Below (boxR3 w (.slice ao m.length cap) x).heap.size (boxR3 w (.slice ao m.length cap) x) wf → RefS wf (.slice ao m.length cap) m) := fun wf hb => (h.all hW.below).all hb
 have HK : Hid (∀ wf, Below (boxR3 w (.slice ao m.length cap) x).heap.size (boxR3 w (.slice ao m.length cap) x) wf → RefW w wf (.slice ao m.length cap) x) := fun wf hb => hW.later hb
 have hBB := Below.refl (boxR3 w (.slice ao m.length cap) x).heap.size (boxR3 w (.slice ao m.length cap) x)
 have HAt : Hid (∀ wf, Below (boxR3 w (.slice ao m.length cap) x).heap.size (boxR3 w (.slice ao m.length cap) x) wf → Calls Tryz.prog 52 #[.agg #[.slice ao m.length cap], agP x, .string c] wf fun e w' => e = .returned (.int .i64 (atL m (x, c))) ∧ Below wf.heap.size wf w') := fun wf hb => refAt_any _ m x c wf (HR.out wf hb) hw.len hw.sorted
 have v1 := hw.at_nonneg (x, c)
 have v2 : atL m (x, c) ≤ 1099511627776 := Int.le_trans (hw.at_le (x, c)) (hw.most _)
 have HWi : Hid (∀ wf, Below (boxR3 w (.slice ao m.length cap) x).heap.size (boxR3 w (.slice ao m.length cap) x) wf → Calls Tryz.prog 93 #[.agg #[.slice ao m.length cap], agP x, .string c, .int .i64 (atL m (x, c) - n)] wf fun e w' => ∃ v', e = .returned (.agg #[v']) ∧ RefS w' v' (withL m (x, c) (atL m (x, c) - n)) ∧ Below wf.heap.size wf w') := fun wf hb => with_any _ m x c _ wf (HR.out wf hb) hw.len
 generalize withL m (x, c) (atL m (x, c) - n) = M at *
 generalize atL m (x, c) = V at *
 obtain ⟨a, r, bb⟩ := x
 unfold agP boxR3 boxR at *
 simp only at *
 obtain ⟨f0, ⟨p0, p1, p2⟩⟩ : _ ∧ _ := ⟨hW.cv, hW.bx⟩
 obtain ⟨g0, g1⟩ := hW.cells
 simp only at p0 p1 p2
 clear hW h hw
 generalize hln : m.length = ln at *
 have HLn : Hid (m.length = ln) := hln
 clear hln
 go_enter Tryz.func63, Tryz.ntmps63
 go_wp2_with (first
  | (go_at_call 52; refine (HAt.out _ hBB).mono ?_; rintro e w7 ⟨rfl, hb7⟩; have hB7 := hBB.trans (hb7.mono hBB.size); obtain ⟨q70, q71, q72⟩ := (HK.out _ hB7).bx; have q73 := (HK.out _ hB7).cv; obtain ⟨q74, q75⟩ := (HK.out _ hB7).cells; simp only at q70 q71 q72)
  | (go_at_call 93; refine (HWi.out _ hB7).mono ?_; rintro e w8 ⟨v8, rfl, hr8, hb8⟩; obtain ⟨ao8, k8, cp8, rfl⟩ := own_sliceN hr8; have hB8 := hB7.trans (hb8.mono hB7.size); obtain ⟨q80, q81, q82⟩ := (HK.out _ hB8).bx; have q83 := (HK.out _ hB8).cv; obtain ⟨q84, q85⟩ := (HK.out _ hB8).cells; have q86 : (w8.setCell ⟨w.heap.size + 1 + 1, 0, none⟩ (.slice ao8 k8 cp8)).cell? ⟨w.heap.size, 0, none⟩ = some (.slice ao ln cap) := (World.cell?_of_block (a := ⟨w.heap.size, 0, none⟩) (Below.heap_setCell w8 ⟨w.heap.size + 1 + 1, 0, none⟩ _ w.heap.size (by simp; omega))).trans q83; simp only at q80 q81 q82))
 refine bodyPost_ret (v := .tuple #[.agg #[(.slice ao8 k8 cp8)], .int .i64 0]) (by simp [results, Tryz.results63, go_sem, q84]) rfl ?_
 obtain ⟨r1, r2⟩ := HFin.out _ _ _ (hr8) (hB8)
 exact ⟨_, rfl, r1, r2⟩
theorem refPut_any (v : Value) (m : List Ln) (x : Pl) (c : ByteArray) (n : Int) (w : World) (h : RefS w v m) (hw : Wf m) (hz : x.1.size ≤ maxLen) (hz' : c.size ≤ maxLen) :
  Calls Tryz.prog 62 #[.agg #[v], agP x, .string c, .int .i64 n] w fun e w' => ∃ v', e = .returned (.tuple #[.agg #[v'], .int .i64 (putE m x c n)]) ∧ RefS w' v' (putL m x c n) ∧ Below w.heap.size w w' := by
 by_cases h0 : placeErr x = 0
 ·cases h1 : isName c.data.toList with
  | false =>
   have e := putE_name (m := m) (n := n) h0 h1
   rw [putL_err (by rw [e]; decide), e]
   exact refPut_name v m x c n w h hw hz hz' h0 h1
  | true =>
   cases h2 : numW n with
   | false =>
    have e := putE_num (m := m) (n := n) h0 h1 (Or.inl h2)
    rw [putL_err (by rw [e]; decide), e]
    refine refPut_num v m x c n w h hw hz hz' h0 h1 ?_
    have : ¬ (1 ≤ n ∧ n ≤ 1099511627776) := fun hn => by rw [(numW_iff n).2 hn] at h2; cases h2
    omega
   | true =>
    obtain ⟨n1, n2⟩ := (numW_iff n).1 h2
    by_cases h3 : ofL m c + n ≤ 1099511627776
    ·have e := putE_full (m := m) (x := x) h0 h1 h2 h3
     rcases findR_cases m (x, c) with ⟨hf, hno⟩ | ⟨i, l, hf, hl, hk⟩
     ·have ha : atL m (x, c) = 0 := atL_none hno
      by_cases h4 : 200 ≤ m.length
      ·rw [if_pos ⟨ha, h4⟩] at e
       rw [putL_err (by rw [e]; decide), e]
       exact refPut_full v m x c n w h hw hz hz' h0 h1 n1 n2 h3 hf h4
      ·rw [if_neg (fun hx => h4 hx.2)] at e
       rw [putL_zero e, e]
       exact refPut_in v m x c n w h hw hz hz' h0 h1 n1 n2 h3 (Or.inl ⟨hf, by omega⟩)
     ·have hp := atL_pos_of hw hl
      rw [hk] at hp
      rw [if_neg (fun hx => by omega)] at e
      rw [putL_zero e, e]
      exact refPut_in v m x c n w h hw hz hz' h0 h1 n1 n2 h3 (Or.inr (by rw [hf]; omega))
    ·have h4 : 1099511627776 < ofL m c + n := by omega
     have e := putE_num (m := m) (n := n) h0 h1 (Or.inr h4)
     rw [putL_err (by rw [e]; decide), e]
     exact refPut_sum v m x c n w h hw hz hz' h0 h1 n1 n2 h4
 ·have e := putE_place (m := m) (c := c) (n := n) h0
  rw [putL_err (by rw [e]; exact h0), e]
  exact refPut_place v m x c n w h hw hz h0
theorem refTake_any (v : Value) (m : List Ln) (x : Pl) (c : ByteArray) (n : Int) (w : World) (h : RefS w v m) (hw : Wf m) :
  Calls Tryz.prog 63 #[.agg #[v], agP x, .string c, .int .i64 n] w fun e w' => ∃ v', e = .returned (.tuple #[.agg #[v'], .int .i64 (takeE m (x, c) n)]) ∧ RefS w' v' (takeL m (x, c) n) ∧ Below w.heap.size w w' := by
 cases h2 : numW n with
 | false =>
  have e : takeE m (x, c) n = 2 := by unfold takeE; rw [h2]; rfl
  rw [takeL_err (by rw [e]; decide), e]
  refine refTake_num v m x c n w h hw ?_
  have : ¬ (1 ≤ n ∧ n ≤ 1099511627776) := fun hn => by rw [(numW_iff n).2 hn] at h2; cases h2
  omega
 | true =>
  obtain ⟨n1, n2⟩ := (numW_iff n).1 h2
  by_cases h3 : n ≤ atL m (x, c)
  ·have e : takeE m (x, c) n = 0 := by unfold takeE; rw [if_pos h2, if_pos h3]
   rw [takeL_zero e, e]
   exact refTake_in v m x c n w h hw n1 n2 h3
  ·have e : takeE m (x, c) n = 9 := by unfold takeE; rw [if_pos h2, if_neg h3]
   rw [takeL_err (by rw [e]; decide), e]
   exact refTake_short v m x c n w h hw n1 n2 (by omega)
end Go.Proofs.YtppodkkefegbkaaGreatDoor
