/-
 What the reference's 'with' answers: the lines with one set anew, in memory of its own; nothing old is turned.
-/
import Derived.Test.YtppodkkefegbkaaGreatDoorJz14
import Derived.Test.YtppodkkefegbkaaGreatDoorJz6
import Derived.Lib.SmallJoins
set_option maxRecDepth 100000
set_option maxHeartbeats 16000000
namespace Go.Proofs.YtppodkkefegbkaaGreatDoor
open Go.RowKit Go.Lib Go.Sort
structure KeptBut (B q : Nat) (w w' : World) : Prop where
 os : w'.os = w.os
 tape : w'.tape = w.tape
 output : w'.output = w.output
 size : w.heap.size ≤ w'.heap.size
 block : ∀ k, k < B → k ≠ q → w'.heap[k]? = w.heap[k]?
theorem KeptBut.refl (B q : Nat) (w : World) : KeptBut B q w w := ⟨rfl, rfl, rfl, Nat.le_refl _, fun _ _ _ => rfl⟩
theorem KeptBut.trans {B q : Nat} {w w' w'' : World} (h : KeptBut B q w w') (k : KeptBut B q w' w'') : KeptBut B q w w'' :=
 ⟨k.os.trans h.os, k.tape.trans h.tape, k.output.trans h.output, Nat.le_trans h.size k.size, fun i hi hn => (k.block i hi hn).trans (h.block i hi hn)⟩
theorem KeptBut.of_below {B q : Nat} {w w' : World} (h : Below B w w') : KeptBut B q w w' := ⟨h.os, h.tape, h.output, h.size, fun k hk _ => h.block k hk⟩
theorem KeptBut.cell {B q : Nat} {w w' : World} (h : KeptBut B q w w') {p : Addr} (hp : p.block < B) (hn : p.block ≠ q) : w'.cell? p = w.cell? p := World.cell?_of_block (h.block p.block hp hn)
theorem KeptBut.line {B q g o : Nat} {w w' : World} {l : Ln} (h : KeptBut B q w w') (hl : LineAt w g o l) (hp : g < B) (hn : g ≠ q) : LineAt w' g o l := hl.of_block (h.block g hp hn)
theorem KeptBut.setCell (B q i : Nat) (w : World) (v : Value) : KeptBut B q w (w.setCell ⟨q, i, none⟩ v) := by
 have h := (Below.refl q w).setCell (p := ⟨q, i, none⟩) (Nat.le_refl _) v
 exact ⟨h.os, h.tape, h.output, h.size, fun k _ hn => Below.heap_setCell w ⟨q, i, none⟩ v k hn⟩
structure Gath (B q : Nat) (o : List Ln) (vo : Value) (w : World) : Prop where
 blk : w.heap[q]? = some (.cells #[vo] 76 (0, 0))
 own : w.ownsRow B 48 5 vo o.length (flatN o)
 lt : q < B
 le : B ≤ w.heap.size
theorem Gath.later {B q : Nat} {o : List Ln} {vo : Value} {w w' : World} (h : Gath B q o vo w) (hb : Below w.heap.size w w') : Gath B q o vo w' :=
 ⟨(hb.block q (by have := h.lt; have := h.le; omega)).trans h.blk, h.own.kept (row := none) ⟨hb.os, hb.tape, hb.output, hb.size, fun k hk _ => hb.block k hk⟩ (by cases e : vo.ownBlock with | none => exact Or.inl rfl | some k => exact Or.inr (by simp)), h.lt, Nat.le_trans h.le hb.size⟩
theorem Gath.cell {B q : Nat} {o : List Ln} {vo : Value} {w : World} (h : Gath B q o vo w) : w.cell? ⟨q, 0, none⟩ = some vo ∧ w.frozen? ⟨q, 0, none⟩ = false := ⟨by rw [cell_of_heap h.blk]; rfl, frozen_of_heap h.blk 0⟩
theorem Gath.more {B q : Nat} {o : List Ln} {l : Ln} {vo v' : Value} {w w2 : World} (h : Gath B q o vo w) (hown : w2.ownsRow B 48 5 v' (o.length + 1) (flatN o ++ encN l)) (hg : w.grownBy w2 vo.ownBlock) :
  w2.cell? ⟨q, 0, none⟩ = some vo ∧ w2.frozen? ⟨q, 0, none⟩ = false ∧ Gath B q (o ++ [l]) v' (w2.setCell ⟨q, 0, none⟩ v') ∧ KeptBut B q w (w2.setCell ⟨q, 0, none⟩ v') := by
 have hq : q < w.heap.size := (Array.getElem?_eq_some_iff.1 h.blk).1
 have hlt := h.lt
 have hne : ∀ k, vo.ownBlock = some k → B ≤ k := fun k e => (h.own.lt k e).1
 have hb2 : w2.heap[q]? = some (.cells #[vo] 76 (0, 0)) := (hg.block q hq (fun e => by have := hne q e.symm; omega)).trans h.blk
 have hk : KeptBut B q w w2 := ⟨hg.os, hg.tape, hg.output, hg.size, fun k hk _ => hg.block k (Nat.lt_of_lt_of_le hk h.le) (fun e => by have := hne k e.symm; omega)⟩
 refine ⟨by rw [cell_of_heap hb2]; rfl, frozen_of_heap hb2 0, ⟨?_, ?_, hlt, ?_⟩, hk.trans (KeptBut.setCell B q 0 w2 v')⟩
 ·have := Joins.block_setCell (i := 0) hb2 v'
  simpa using this
 ·rw [flatN_snoc, List.length_append]
  exact ownsRow_setCell_other hown (fun e => by have := (hown.lt q e).1; omega) _
 ·have := (KeptBut.setCell B q 0 w2 v').size
  exact Nat.le_trans h.le (Nat.le_trans hg.size this)
abbrev boxW (w : World) (v : Value) (x : Pl) (c : ByteArray) (n : Int) : World := (((boxR w v x).alloc (.cells #[.slice none 0 0] 76)).alloc (.cells #[.string x.1, .int .i64 x.2.1, .int .i64 x.2.2, .string c, .int .i64 n] 48)).alloc (.cells #[.slice none 0 0] 76)
structure WithW (w W : World) (v : Value) (x : Pl) (c : ByteArray) (n : Int) : Prop where
 below : Below w.heap.size w W
 cv : W.cell? ⟨w.heap.size, 0, none⟩ = some v
 bx : BoxAt (w.heap.size + 1) x W
 res : W.heap[w.heap.size + 1 + 1]? = some (.cells #[.slice none 0 0] 76 (0, 0))
 ln : LineAt W (w.heap.size + 1 + 1 + 1) 0 (x, c, n)
 g : Gath W.heap.size (w.heap.size + 1 + 1 + 1 + 1) [] (.slice none 0 0) W
 sz : W.heap.size = w.heap.size + 1 + 1 + 1 + 1 + 1
theorem withW (w : World) (v : Value) (x : Pl) (c : ByteArray) (n : Int) : WithW w (boxW w v x c n) v x c n := by
 unfold boxW
 have h0 := boxR_below w v x
 obtain ⟨h1, h2⟩ := boxR_cells w v x
 have s0 : (boxR w v x).heap.size = w.heap.size + 1 + 1 := by simp
 have hl0 : w.heap.size < (boxR w v x).heap.size := by omega
 generalize boxR w v x = W0 at *
 have hA : Below W0.heap.size W0 (W0.alloc (.cells #[.slice none 0 0] 76)) := (Below.refl _ _).alloc (Nat.le_refl _) _
 have sA : (W0.alloc (.cells #[.slice none 0 0] 76)).heap.size = w.heap.size + 1 + 1 + 1 := by simp [s0]
 have nA := heap_alloc_new W0 (.cells #[.slice none 0 0] 76)
 rw [s0] at nA
 generalize W0.alloc (.cells #[.slice none 0 0] 76) = W1 at *
 have hC : Below W1.heap.size W1 (W1.alloc (.cells #[.string x.1, .int .i64 x.2.1, .int .i64 x.2.2, .string c, .int .i64 n] 48)) := (Below.refl _ _).alloc (Nat.le_refl _) _
 have sC : (W1.alloc (.cells #[.string x.1, .int .i64 x.2.1, .int .i64 x.2.2, .string c, .int .i64 n] 48)).heap.size = w.heap.size + 1 + 1 + 1 + 1 := by simp [sA]
 have nC := LineAt.new W1 (x, c, n) 48 (w.heap.size + 1 + 1 + 1) sA.symm
 simp only at nC
 generalize W1.alloc (.cells #[.string x.1, .int .i64 x.2.1, .int .i64 x.2.2, .string c, .int .i64 n] 48) = W2 at *
 have hD : Below W2.heap.size W2 (W2.alloc (.cells #[.slice none 0 0] 76)) := (Below.refl _ _).alloc (Nat.le_refl _) _
 have sD : (W2.alloc (.cells #[.slice none 0 0] 76)).heap.size = w.heap.size + 1 + 1 + 1 + 1 + 1 := by simp [sC]
 have nD := heap_alloc_new W2 (.cells #[.slice none 0 0] 76)
 rw [sC] at nD
 generalize W2.alloc (.cells #[.slice none 0 0] 76) = W3 at *
 have hAD : Below W0.heap.size W0 W3 := hA.trans ((hC.trans (hD.mono hC.size)).mono hA.size)
 exact ⟨h0.trans (hAD.mono h0.size), (hAD.cell (p := ⟨w.heap.size, 0, none⟩) hl0).trans h1, h2.below hAD, ((hC.trans (hD.mono hC.size)).block _ (by omega)).trans nA, nC.below hD, ⟨nD, World.ownsRow_nil _ _ _ _, by omega, Nat.le_refl _⟩, sD⟩
theorem RefS.shape {w : World} {v : Value} {m : List Ln} (h : RefS w v m) : ∃ ao cap, v = .slice ao m.length cap ∧ ∀ k l, m[k]? = some l → ∃ g, ao = some ⟨g, 0, none⟩ ∧ g < w.heap.size ∧ LineAt w g (k * 5) l := by
 rcases h.forms with ⟨rfl, rfl⟩ | ⟨g, cap, rfl, hg, hrow⟩
 ·exact ⟨none, 0, rfl, by simp⟩
 ·exact ⟨_, cap, rfl, fun k l hk => ⟨g, rfl, hg, hrow k l hk⟩⟩
theorem with_facts {w W wr : World} {v : Value} {x : Pl} {c : ByteArray} {n : Int} (hW : WithW w W v x c n) (hk : KeptBut W.heap.size (w.heap.size + 1 + 1 + 1 + 1) W wr) :
  wr.cell? ⟨w.heap.size, 0, none⟩ = some v ∧ BoxAt (w.heap.size + 1) x wr ∧ LineAt wr (w.heap.size + 1 + 1 + 1) 0 (x, c, n) ∧ wr.heap[w.heap.size + 1 + 1]? = some (.cells #[.slice none 0 0] 76 (0, 0)) := by
 have hs := hW.sz
 refine ⟨(hk.cell (p := ⟨w.heap.size, 0, none⟩) (by simp; omega) (by simp; omega)).trans hW.cv, ?_, hk.line hW.ln (by omega) (by omega), (hk.block _ (by omega) (by omega)).trans hW.res⟩
 have hb := hk.block (w.heap.size + 1) (by omega) (by omega)
 exact ⟨(World.cell?_of_block (a := ⟨w.heap.size + 1, 0, none⟩) hb).trans hW.bx.c0, (World.cell?_of_block (a := ⟨w.heap.size + 1, 1, none⟩) hb).trans hW.bx.c1, (World.cell?_of_block (a := ⟨w.heap.size + 1, 2, none⟩) hb).trans hW.bx.c2⟩
theorem more_line {q g o' : Nat} {l' : Ln} {vo v' : Value} {w w2 : World} (hg : w.grownBy w2 vo.ownBlock) (hl : LineAt w g o' l') (hne : vo.ownBlock ≠ some g) (hgq : g ≠ q) : LineAt (w2.setCell ⟨q, 0, none⟩ v') g o' l' :=
 hl.of_block ((Below.heap_setCell w2 ⟨q, 0, none⟩ v' g hgq).trans (hg.block g hl.lt (fun e => hne e.symm)))
theorem own_sliceN {w : World} {B e n : Nat} {v : Value} {xs : List Value} (h : w.ownsRow B e 5 v n xs) : ∃ ao k cap, v = .slice ao k cap := by
 rcases h.2 with ⟨hv, _⟩ | ⟨g, cap, cur, hv, _⟩
 ·exact ⟨_, _, _, hv⟩
 ·exact ⟨_, _, _, hv⟩
theorem with_any (v : Value) (m : List Ln) (x : Pl) (c : ByteArray) (n : Int) (w : World) (h : RefS w v m) (h200 : m.length ≤ 200) :
  Calls Tryz.prog 93 #[.agg #[v], agP x, .string c, .int .i64 n] w fun e w' => ∃ v', e = .returned (.agg #[v']) ∧ RefS w' v' (withL m (x, c) n) ∧ Below w.heap.size w w' := by
 obtain ⟨i0, hi, hz0, hz1, hz2⟩ := info_parts Tryz.infoLn
 have hW := withW w v x c n
 have hE := fun (l : Ln) W => eqK_run l.1 x W
 have hG := Tryz.guardK
 have HLA : Hid (∀ (l : Ln) w1, Calls Tryz.prog 114 #[agN (x, c, n), agN l] w1 fun e w' => e = .returned (.bool (aheadN (x, c, n) l)) ∧ Below w1.heap.size w1 w') := fun l w1 => lineAhead_any (x, c, n) l w1
 have HWE : Hid (wend (x, c, n) (wrun (x, c, n) (decide (n = 0)) m) = withL m (x, c) n) := wend_run m (x, c) n
 obtain ⟨ao, cap, rfl, hsh⟩ := h.shape
 have hBel := hW.below
 have HSh : Hid (∀ k l, m[k]? = some l → ∃ g, ao = some ⟨g, 0, none⟩ ∧ g < w.heap.size ∧ LineAt (boxW w (.slice ao m.length cap) x c n) g (k * 5) l) := fun k l hk => by
  obtain ⟨g, h1, h2, h3⟩ := hsh k l hk
  exact ⟨g, h1, h2, h3.below hBel⟩
 clear h hsh hBel
 generalize withL m (x, c) n = mR at *
 obtain ⟨a, r, bb⟩ := x
 unfold agP agN boxW boxR at *
 simp only at *
 generalize hln : m.length = ln at *
 have HN : Hid (ln = m.length) := hln.symm
 clear hln
 have hnz : (n == 0) = decide (n = 0) := rfl
 generalize decide (n = 0) = z at *
 have HW : Hid (WithW w _ _ (a, r, bb) c n) := hW
 have HE : Hid (∀ (l : Ln) W, _) := hE
 clear hW hE
 go_enter Tryz.func93, Tryz.ntmps93
 go_wp2
 generalize ((((w.alloc (.cells #[.slice ao ln cap] 76)).alloc (.cells #[.string a, .int .i64 r, .int .i64 bb] 41)).alloc (.cells #[.slice none 0 0] 76)).alloc (.cells #[.string a, .int .i64 r, .int .i64 bb, .string c, .int .i64 n] 48)).alloc (.cells #[.slice none 0 0] 76) = W at *
 have HSz : Hid (W.heap.size = w.heap.size + 1 + 1 + 1 + 1 + 1) := HW.out.sz
 obtain ⟨B, hB⟩ : ∃ B, B = W.heap.size := ⟨_, rfl⟩
 have HB : Hid (B = W.heap.size) := hB
 clear hB
 have HF : Hid (∀ wr, KeptBut B (w.heap.size + 1 + 1 + 1 + 1) W wr → _) := fun wr hk => with_facts HW.out (by rw [← HB.out]; exact hk)
 have hG0 : Gath B (w.heap.size + 1 + 1 + 1 + 1) [] (.slice none 0 0) W := by rw [HB.out]; exact HW.out.g
 go_loopw [11, 12] (fun dn i wr => ∃ (k : Nat) (vo : Value), k ≤ ln ∧ i = .int .i64 k ∧ dn = .bool (wrun ((a, r, bb), c, n) z (m.take k)).2 ∧ Gath B (w.heap.size + 1 + 1 + 1 + 1) (wrun ((a, r, bb), c, n) z (m.take k)).1 vo wr ∧ KeptBut B (w.heap.size + 1 + 1 + 1 + 1) W wr) (fun _ i _ => ln - (RowKit.intOf i).toNat)
 case atStart => exact ⟨0, .slice none 0 0, Nat.zero_le _, rfl, by simp [wrun_nil], hG0, KeptBut.refl _ _ _⟩
 case round =>
  clear hG0
  obtain ⟨k, vo, hk, rfl, rfl, hga, hke⟩ := hrel
  obtain ⟨f0, ⟨p0, p1, p2⟩, ⟨x0, x1, x2, x3, x4⟩, hres⟩ := HF.out wr hke
  simp only [Nat.zero_add] at p0 p1 p2 x0 x1 x2 x3 x4
  have hlen := wrun_short ((a, r, bb), c, n) z (m.take k)
  have hlt200 : (m.take k).length ≤ 200 := by have := List.length_take_le k m; omega
  obtain ⟨o0, of0⟩ := hga.cell
  by_cases hlt : k < ln
  ·have hkm : k < m.length := by rw [← HN.out]; exact hlt
   obtain ⟨l, hl⟩ : ∃ l, m[k]? = some l := ⟨_, List.getElem?_eq_getElem hkm⟩
   obtain ⟨g, rfl, hg, hline⟩ := HSh.out k l hl
   obtain ⟨c0, c1, c2, c3, c4⟩ := hke.line hline (by have := HB.out; have := HSz.out; omega) (by omega)
   have hst : m.take (k + 1) = m.take k ++ [l] := by
    obtain ⟨h1, h2⟩ := List.getElem?_eq_some_iff.1 hl
    rw [List.take_succ_eq_append_getElem h1, h2]
   have hq := HE.out l
   have hla := HLA.out l
   have HS1 : Hid (m.take (k + 1) = m.take k ++ [l]) := hst
   have hwrB : Hid (B ≤ wr.heap.size) := hga.le
   clear hl hkm hline hst
   have HSt : Hid (wrun ((a, r, bb), c, n) z (m.take (k + 1)) = wstep ((a, r, bb), c, n) (wrun ((a, r, bb), c, n) z (m.take k)) l) := by show _ = _; rw [HS1.out, wrun_snoc]
   clear HS1
   generalize (m.take k).length = tl at *
   generalize wrun ((a, r, bb), c, n) z (m.take k) = S0 at *
   obtain ⟨⟨la, lr, lb⟩, lc, lnn⟩ := l
   simp only at c0 c1 c2 c3 c4 hq hla
   have hbox := LineAt.new wr ((la, lr, lb), lc, lnn) 48 _ rfl
   have hbA : Below wr.heap.size wr (wr.alloc (.cells #[.string la, .int .i64 lr, .int .i64 lb, .string lc, .int .i64 lnn] 48)) := (Below.refl _ wr).alloc (Nat.le_refl _) _
   have hgA := hga.later hbA
   have hkA := hke.trans (KeptBut.of_below (hbA.mono hga.le))
   obtain ⟨_, ⟨pA0, pA1, pA2⟩, ⟨xA0, xA1, xA2, xA3, xA4⟩, _⟩ := HF.out _ hkA
   obtain ⟨oA, ofA⟩ := hgA.cell
   obtain ⟨lA0, lA1, lA2, lA3, lA4⟩ := hbox
   simp only [Nat.zero_add] at pA0 pA1 pA2 xA0 xA1 xA2 xA3 xA4 lA0 lA1 lA2 lA3 lA4
   have hlbox : Hid (LineAt (wr.alloc (.cells #[.string la, .int .i64 lr, .int .i64 lb, .string lc, .int .i64 lnn] 48)) wr.heap.size 0 ((la, lr, lb), lc, lnn)) := LineAt.new wr ((la, lr, lb), lc, lnn) 48 _ rfl
   have howl : Hid (∀ k, vo.ownBlock = some k → k < wr.heap.size) := fun k e => (hga.own.lt k e).2
   by_cases hkey : keyL ((la, lr, lb), lc, lnn) = keyL ((a, r, bb), c, n)
   ·have HS2 : Hid (wrun ((a, r, bb), c, n) z (m.take (k + 1)) = S0) := by show _ = _; rw [HSt.out, wstep_same hkey]
    have hp : ((la, lr, lb) : Pl) = (a, r, bb) := congrArg Prod.fst hkey
    have hc : lc = c := congrArg Prod.snd hkey
    rw [decide_eq_true hp] at hq
    subst hc
    clear hkey hp
    go_wp2
    go_roundw
    case rel => exact ⟨k + 1, vo, by omega, by go_num, by rw [HS2.out], by rw [HS2.out]; exact hgA, hkA⟩
    case measure => simp [RowKit.intOf]; omega
   ·have hcase : (∀ W, (Op.equalIn 10000 41 (.agg #[.string la, .int .i64 lr, .int .i64 lb]) (.agg #[.string a, .int .i64 r, .int .i64 bb])).run Tryz.prog W = .ok false W) ∨ ((∀ W, (Op.equalIn 10000 41 (.agg #[.string la, .int .i64 lr, .int .i64 lb]) (.agg #[.string a, .int .i64 r, .int .i64 bb])).run Tryz.prog W = .ok true W) ∧ (lc.toList == c.toList) = false) := by
     by_cases hp : ((la, lr, lb) : Pl) = (a, r, bb)
     ·right
      rw [decide_eq_true hp] at hq
      refine ⟨hq, ?_⟩
      rw [same_eq]
      exact decide_eq_false (fun e => hkey (by unfold keyL; simp only; rw [hp, e]))
     ·left
      rw [decide_eq_false hp] at hq
      exact hq
    clear hq
    have HKey : Hid (keyL ((la, lr, lb), lc, lnn) ≠ keyL ((a, r, bb), c, n)) := hkey
    clear hkey
    obtain ⟨S01, S02⟩ := S0
    simp only at hgA hlen hga
    cases S02 with
    | true =>
     have HS2 : Hid (wrun ((a, r, bb), c, n) z (m.take (k + 1)) = (S01 ++ [((la, lr, lb), lc, lnn)], true)) := by show _ = _; rw [HSt.out, wstep_done HKey.out rfl]
     have hgB := fun o => hgA.later ((Below.refl _ _).alloc (Nat.le_refl _) o)
     have hkB := fun o => hkA.trans (KeptBut.of_below (((Below.refl _ (wr.alloc (.cells #[.string la, .int .i64 lr, .int .i64 lb, .string lc, .int .i64 lnn] 48))).alloc (Nat.le_refl _) o).mono hgA.le))
     clear hla HSt
     rcases hcase with hq | ⟨hq, e3⟩
     all_goals
      go_wp2_with (at_builtin; refine wpList_append_own _ rfl _ _ 23 rfl B 48 i0 (.agg #[.string ⟨#[]⟩, .int .i64 0, .int .i64 0, .string ⟨#[]⟩, .int .i64 0]) 5 56 Tryz.underlying23 hi hz0 hz1 hz2 rfl (by decide) _ _ _ rfl (hgB _).own ⟨_, 0, none⟩ 1 1 (encN ((la, lr, lb), lc, lnn)) rfl rfl (encN_cells _ ((la, lr, lb), lc, lnn) _ _ (by simp)) (encN_one _) (by unfold maxLen; omega) (by omega) (hgB _).le ?_; intro v2 w2 hown2 hgrow2 _; obtain ⟨ao2, k2, cp2, rfl⟩ := own_sliceN hown2; obtain ⟨d2, f2, hG2, hK2⟩ := (hgB _).more hown2 hgrow2)
      go_roundw
      case rel => exact ⟨k + 1, _, by omega, by go_num, by rw [HS2.out], by rw [HS2.out]; exact hG2, (hkB _).trans hK2⟩
      case measure => simp [RowKit.intOf]; omega
    | false =>
     cases ha : aheadN ((a, r, bb), c, n) ((la, lr, lb), lc, lnn) with
     | false =>
      have HS2 : Hid (wrun ((a, r, bb), c, n) z (m.take (k + 1)) = (S01 ++ [((la, lr, lb), lc, lnn)], false)) := by show _ = _; rw [HSt.out, wstep_later HKey.out rfl ha]
      rw [ha] at hla
      clear HSt ha
      rcases hcase with hq | ⟨hq, e3⟩
      all_goals
       go_wp2_with (first
        | (go_at_call 114; refine (hla _).mono ?_; rintro e w3 ⟨rfl, hb3⟩; have hg3 := hgA.later hb3; have hk3 := hkA.trans (KeptBut.of_below (hb3.mono hgA.le)); obtain ⟨_, _, ⟨y0, y1, y2, y3, y4⟩, _⟩ := HF.out _ hk3; obtain ⟨o3, of3⟩ := hg3.cell; have hlb3 := hlbox.out.below hb3; obtain ⟨l0, l1, l2, l3, l4⟩ := hlbox.out.below hb3; have hgB := fun o => hg3.later ((Below.refl _ w3).alloc (Nat.le_refl _) o); simp only [Nat.zero_add] at y0 y1 y2 y3 y4 l0 l1 l2 l3 l4)
        | (at_builtin; refine wpList_append_own _ rfl _ _ 23 rfl B 48 i0 (.agg #[.string ⟨#[]⟩, .int .i64 0, .int .i64 0, .string ⟨#[]⟩, .int .i64 0]) 5 56 Tryz.underlying23 hi hz0 hz1 hz2 rfl (by decide) _ _ _ rfl (hgB _).own ⟨_, 0, none⟩ 1 1 (encN ((la, lr, lb), lc, lnn)) rfl rfl (encN_cells _ ((la, lr, lb), lc, lnn) _ _ (by simp)) (encN_one _) (by unfold maxLen; omega) (by omega) (hgB _).le ?_; intro v2 w2 hown2 hgrow2 _; obtain ⟨ao2, k2, cp2, rfl⟩ := own_sliceN hown2; obtain ⟨d2, f2, hG2, hK2⟩ := (hgB _).more hown2 hgrow2))
       go_roundw
       case rel => exact ⟨k + 1, _, by omega, by go_num, by rw [HS2.out], by rw [HS2.out]; exact hG2, (hk3.trans (KeptBut.of_below (((Below.refl _ w3).alloc (Nat.le_refl _) _).mono hg3.le))).trans hK2⟩
       case measure => simp [RowKit.intOf]; omega
     | true =>
      have HS2 : Hid (wrun ((a, r, bb), c, n) z (m.take (k + 1)) = (S01 ++ [((a, r, bb), c, n)] ++ [((la, lr, lb), lc, lnn)], true)) := by show _ = _; rw [HSt.out, wstep_here HKey.out rfl ha]
      rw [ha] at hla
      clear HSt ha
      rcases hcase with hq | ⟨hq, e3⟩
      all_goals
       go_wp2_with (first
        | (go_at_call 114; refine (hla _).mono ?_; rintro e w3 ⟨rfl, hb3⟩; have hg3 := hgA.later hb3; have hk3 := hkA.trans (KeptBut.of_below (hb3.mono hgA.le)); obtain ⟨_, _, ⟨y0, y1, y2, y3, y4⟩, _⟩ := HF.out _ hk3; obtain ⟨o3, of3⟩ := hg3.cell; have hlb3 := hlbox.out.below hb3; obtain ⟨l0, l1, l2, l3, l4⟩ := hlbox.out.below hb3; have hgB := fun o => hg3.later ((Below.refl _ w3).alloc (Nat.le_refl _) o); simp only [Nat.zero_add] at y0 y1 y2 y3 y4 l0 l1 l2 l3 l4)
        | (at_builtin; refine wpList_append_own _ rfl _ _ 23 rfl B 48 i0 (.agg #[.string ⟨#[]⟩, .int .i64 0, .int .i64 0, .string ⟨#[]⟩, .int .i64 0]) 5 56 Tryz.underlying23 hi hz0 hz1 hz2 rfl (by decide) _ _ _ rfl (hgB _).own ⟨_, 0, none⟩ 1 1 (encN ((a, r, bb), c, n)) rfl rfl (encN_cells _ ((a, r, bb), c, n) _ _ (by simp)) (encN_one _) (by unfold maxLen; omega) (by omega) (hgB _).le ?_; intro v2 w2 hown2 hgrow2 _; obtain ⟨ao2, k2, cp2, rfl⟩ := own_sliceN hown2; obtain ⟨d2, f2, hG2, hK2⟩ := (hgB _).more hown2 hgrow2; have hlx : Hid (LineAt (w2.setCell ⟨w.heap.size + 1 + 1 + 1 + 1, 0, none⟩ (.slice ao2 k2 cp2)) wr.heap.size 0 ((la, lr, lb), lc, lnn)) := more_line hgrow2 (hlb3.below ((Below.refl _ w3).alloc (Nat.le_refl _) _)) (fun e => by have := howl.out _ e; omega) (by have := hwrB.out; have := HB.out; have := HSz.out; omega); obtain ⟨z0, z1, z2, z3, z4⟩ := hlx.out; obtain ⟨oX, ofX⟩ := hG2.cell; have hgC := fun o => hG2.later ((Below.refl _ _).alloc (Nat.le_refl _) o); have hlen2 : (S01 ++ [((a, r, bb), c, n)]).length ≤ 202 := (by rw [List.length_append, List.length_singleton]; omega); clear hgB; simp only [Nat.zero_add] at z0 z1 z2 z3 z4)
        | (at_builtin; refine wpList_append_own _ rfl _ _ 23 rfl B 48 i0 (.agg #[.string ⟨#[]⟩, .int .i64 0, .int .i64 0, .string ⟨#[]⟩, .int .i64 0]) 5 56 Tryz.underlying23 hi hz0 hz1 hz2 rfl (by decide) _ _ _ rfl (hgC _).own ⟨_, 0, none⟩ 1 1 (encN ((la, lr, lb), lc, lnn)) rfl rfl (encN_cells _ ((la, lr, lb), lc, lnn) _ _ (by simp)) (encN_one _) (by unfold maxLen; omega) (by omega) (hgC _).le ?_; intro v4 w4 hown4 hgrow4 _; obtain ⟨ao4, k4, cp4, rfl⟩ := own_sliceN hown4; obtain ⟨d4, f4, hG4, hK4⟩ := (hgC _).more hown4 hgrow4))
       go_roundw
       case rel => exact ⟨k + 1, _, by omega, by go_num, by rw [HS2.out], by rw [HS2.out]; exact hG4, (((hk3.trans (KeptBut.of_below (((Below.refl _ w3).alloc (Nat.le_refl _) _).mono hg3.le))).trans hK2).trans (KeptBut.of_below (((Below.refl _ _).alloc (Nat.le_refl _) _).mono hG2.le))).trans hK4⟩
       case measure => simp [RowKit.intOf]; omega
  ·have e : m.take k = m := List.take_of_length_le (by rw [← HN.out]; omega)
   rw [e] at hga hlen
   have HFin : Hid (∀ (wf : World) (ve : Value) (o : List Ln), Gath B (w.heap.size + 1 + 1 + 1 + 1) o ve wf → KeptBut B (w.heap.size + 1 + 1 + 1 + 1) W wf → RefS (wf.setCell ⟨w.heap.size + 1 + 1, 0, none⟩ ve) ve o ∧ Below w.heap.size w (wf.setCell ⟨w.heap.size + 1 + 1, 0, none⟩ ve)) := fun wf ve o hg hk => by
    have hsz := HSz.out
    have hbe := HB.out
    refine ⟨ownsRow_setCell_other (Joins.ownsRow_le hg.own (Nat.zero_le _)) (fun e => by have := (hg.own.lt _ e).1; simp at this; omega) _, ?_⟩
    have hb0 := HW.out.below
    have hbf : Below w.heap.size w wf := hb0.trans ⟨hk.os, hk.tape, hk.output, hk.size, fun i hi => hk.block i (by omega) (by omega)⟩
    exact hbf.setCell (p := ⟨w.heap.size + 1 + 1, 0, none⟩) (by simp; omega) _
   have HWE' := HWE.out
   rw [e]
   have hlm : m.length ≤ 200 := by rw [← HN.out]; exact h200
   have hlw := wrun_short ((a, r, bb), c, n) z m
   clear e HSh HLA HE
   generalize wrun ((a, r, bb), c, n) z m = S0 at *
   obtain ⟨S01, S02⟩ := S0
   simp only at hga hlw
   obtain ⟨ao9, k9, cp9, rfl⟩ := own_sliceN hga.own
   have hrc : wr.cell? ⟨w.heap.size + 1 + 1, 0, none⟩ = some (.slice none 0 0) := by rw [cell_of_heap hres]; rfl
   have hrf : wr.frozen? ⟨w.heap.size + 1 + 1, 0, none⟩ = false := frozen_of_heap hres 0
   cases S02 with
   | true =>
    have HR : Hid (S01 = mR) := by show _ = _; rw [← HWE']; rfl
    clear HWE'
    go_wp2
    refine bodyPost_ret (v := .agg #[.slice ao9 k9 cp9]) (by simp [results, Tryz.results93, go_sem, hrc]) rfl ?_
    obtain ⟨r1, r2⟩ := HFin.out wr _ S01 hga hke
    exact ⟨_, rfl, by rw [← HR.out]; exact r1, r2⟩
   | false =>
    have HR : Hid (S01 ++ [((a, r, bb), c, n)] = mR) := by show _ = _; rw [← HWE']; rfl
    clear HWE'
    have hgB := fun o => hga.later ((Below.refl _ wr).alloc (Nat.le_refl _) o)
    have hkB := fun o => hke.trans (KeptBut.of_below (((Below.refl _ wr).alloc (Nat.le_refl _) o).mono hga.le))
    go_wp2_with (at_builtin; refine wpList_append_own _ rfl _ _ 23 rfl B 48 i0 (.agg #[.string ⟨#[]⟩, .int .i64 0, .int .i64 0, .string ⟨#[]⟩, .int .i64 0]) 5 56 Tryz.underlying23 hi hz0 hz1 hz2 rfl (by decide) _ _ _ rfl (hgB _).own ⟨_, 0, none⟩ 1 1 (encN ((a, r, bb), c, n)) rfl rfl (encN_cells _ ((a, r, bb), c, n) _ _ (by simp)) (encN_one _) (by unfold maxLen; omega) (by omega) (hgB _).le ?_; intro v2 w2 hown2 hgrow2 _; obtain ⟨ao2, k2, cp2, rfl⟩ := own_sliceN hown2; obtain ⟨d2, f2, hG2, hK2⟩ := (hgB _).more hown2 hgrow2; have hres2 := (HF.out _ ((hkB _).trans hK2)).2.2.2; have hrc2 : (w2.setCell ⟨w.heap.size + 1 + 1 + 1 + 1, 0, none⟩ (.slice ao2 k2 cp2)).cell? ⟨w.heap.size + 1 + 1, 0, none⟩ = some (.slice none 0 0) := (by rw [cell_of_heap hres2]; rfl); have hrf2 := frozen_of_heap hres2 0; obtain ⟨oX, ofX⟩ := hG2.cell)
    refine bodyPost_ret (v := .agg #[.slice ao2 k2 cp2]) (by simp [results, Tryz.results93, go_sem, hrc2]) rfl ?_
    obtain ⟨r1, r2⟩ := HFin.out _ _ (S01 ++ [((a, r, bb), c, n)]) hG2 ((hkB _).trans hK2)
    exact ⟨_, rfl, by rw [← HR.out]; exact r1, r2⟩
end Go.Proofs.YtppodkkefegbkaaGreatDoor
