/-
  The sentinels of a stock and of its text. What putBehind answers and leaves: a line more behind the one ahead, or an error and no turn. What stock.Read answers of a text of at most 20,000 bytes: a stock, or an error with the line's number; nothing old is turned. What the reference's Bare, Fine and ReadStock answer of a text of at most 20,000 bytes, and of a longer one; nothing old is turned. The reference's ReadStock, walked: a text of at most 20,000 bytes. stock.Read, walked: of a text of at most 20,000 bytes, and of a longer one.
-/
import Derived.Test.YtcipbkaopnaiiabGreatDoorKTake
import Derived.Test.YtcipbkaopnaiiabGreatDoorKPutIn
import Derived.Test.YtcipbkaopnaiiabGreatDoorKLines
import Derived.Test.YtcipbkaopnaiiabGreatDoorKText
import Derived.Test.YtcipbkaopnaiiabGreatDoorKReadLine
import Derived.Test.YtcipbkaopnaiiabGreatDoorKRefMath
import Derived.Lib.SmallJoins
import Derived.Test.YtcipbkaopnaiiabGreatDoorKRefRL
import Derived.Test.YtcipbkaopnaiiabGreatDoorKRefMove
import Derived.Test.YtcipbkaopnaiiabGreatDoorKRef2
import Derived.Lib.QuietBelow
namespace Go.Proofs.YtcipbkaopnaiiabGreatDoor
open Go.RowKit Go.Lib Go.Sort

/-- The sentinels of stock.Read. -/
structure Six (w : World) (s : Nat → Addr) : Prop where
  five : Five w s
  text : w.cell? ⟨4, 0, none⟩ = some (err (s 0))
  order : w.cell? ⟨5, 0, none⟩ = some (err (s 9))
theorem Six.below {w w' : World} {s : Nat → Addr} (h : Six w s) (hb : Below w.heap.size w w') : Six w' s where
  five := h.five.below hb
  text := by rw [hb.cell (p := ⟨4, 0, none⟩) (cell_lt h.text)]; exact h.text
  order := by rw [hb.cell (p := ⟨5, 0, none⟩) (cell_lt h.order)]; exact h.order
theorem Six.three {w : World} {s : Nat → Addr} (h : Six w s) : Three w s := ⟨h.five.two, h.text⟩
theorem Sent.six {w : World} {s : Nat → Addr} (h : Sent w s) : Six w s := ⟨h.five, h.cell 0 (by decide), h.cell 9 (by decide)⟩
end Go.Proofs.YtcipbkaopnaiiabGreatDoor
namespace Go.Proofs.YtcipbkaopnaiiabGreatDoor
open Go.RowKit Go.Lib Go.Sort

/-- The error's number. -/
def behE (m : List Ln) (a x : Ln) : Nat := if aheadN a x = true then putE m x.1 x.2.1 x.2.2 else 10
def behL (m : List Ln) (a x : Ln) : List Ln := if aheadN a x = true then putL m x.1 x.2.1 x.2.2 else m
set_option maxRecDepth 100000 in
set_option maxHeartbeats 4000000 in
/-- putBehind. -/
theorem putB_any (a x : Ln) (w : World) (s : Nat → Addr) (p b : Nat) (m : List Ln) (h : IsStock w p b m) (hz : x.1.1.size ≤ maxLen) (hz' : x.2.1.size ≤ maxLen) (hs : Five w s) (ho : w.cell? ⟨5, 0, none⟩ = some (err (s 9))) :
    Calls Tryz.prog 35 #[.pointer (some ⟨p, 0, none⟩), agN a, agN x] w fun e w' => e = .returned (errP s (behE m a x)) ∧ IsStock w' p b (behL m a x) ∧ w.grownBy w' (some b) := by
  have hg := boxN2_grew w a x
  have hx1 := boxN2_first w a x
  have hx2 := boxN2_second w a x
  have hC := kcompare_any a x (boxN2 w a x)
  have hlt := cell_lt ho
  have HP : Hid (∀ w1, Below w.heap.size w w1 → Calls Tryz.prog 14 #[.pointer (some ⟨p, 0, none⟩), agP x.1, .string x.2.1, .int .i64 x.2.2] w1 fun e w' => e = .returned (errP s (putE m x.1 x.2.1 x.2.2)) ∧ IsStock w' p b (putL m x.1 x.2.1 x.2.2) ∧ w1.grownBy w' (some b)) := fun w1 hb => put_any x.1 x.2.1 x.2.2 w1 s p b m (h.all hb) hz hz' (hs.below hb)
  have HO : Hid (∀ w1, Below w.heap.size w w1 → w1.cell? ⟨5, 0, none⟩ = some (err (s 9))) := fun w1 hb => by rw [hb.cell (p := ⟨5, 0, none⟩) hlt]; exact ho
  have HS : Hid (∀ w1, Below w.heap.size w w1 → IsStock w1 p b m) := fun w1 hb => h.all hb
  have ha : aheadN a x = decide (cmpN a x < 0) := rfl
  by_cases hab : aheadN a x = true
  · have hc : ¬ (0 ≤ cmpN a x) := by rw [ha] at hab; simp at hab; omega
    unfold behE behL
    rw [if_pos hab, if_pos hab]
    clear hab ha h hz hz' hs ho hlt
    generalize putE m x.1 x.2.1 x.2.2 = E at *
    generalize putL m x.1 x.2.1 x.2.2 = M at *
    generalize cmpN a x = cc at *
    have hd : decide (0 ≤ cc) = false := decide_eq_false hc
    obtain ⟨⟨a0, a1, a2⟩, a3, a4⟩ := a
    obtain ⟨⟨x0, x1, x2⟩, x3, x4⟩ := x
    unfold agN agP boxN2 at *
    simp only at *
    have HC : Hid (Calls Tryz.prog 79 _ _ _) := hC
    have HG : Hid (Grew w _) := hg
    clear hC hg
    obtain ⟨u0, u1, u2, u3, u4⟩ := hx1
    obtain ⟨v0, v1, v2, v3, v4⟩ := hx2
    simp only [Nat.zero_add] at u0 u1 u2 u3 u4 v0 v1 v2 v3 v4
    go_enter Tryz.func35, Tryz.ntmps35
    go_wp2_with (first
      | (go_at_call 79; refine HC.out.mono ?_; rintro e w1 ⟨rfl, hg1⟩; have k0 := hg1.keep v0; have k1 := hg1.keep v1; have k2 := hg1.keep v2; have k3 := hg1.keep v3; have k4 := hg1.keep v4; have hb1 := (HG.out.trans hg1).below)
      | (go_at_call 14; refine (HP.out _ hb1).mono ?_; rintro e w2 ⟨rfl, hi2, hg2⟩))
    go_ret
    exact ⟨rfl, hi2, grown_trans (Below.grownAll hb1 _) hg2⟩
  · have hc : 0 ≤ cmpN a x := by rw [ha] at hab; simp at hab; omega
    unfold behE behL
    rw [if_neg hab, if_neg hab]
    clear hab ha h hz hz' hs ho hlt HP
    generalize cmpN a x = cc at *
    have hd : decide (0 ≤ cc) = true := decide_eq_true hc
    obtain ⟨⟨a0, a1, a2⟩, a3, a4⟩ := a
    obtain ⟨⟨x0, x1, x2⟩, x3, x4⟩ := x
    unfold agN boxN2 at *
    simp only at *
    have HC : Hid (Calls Tryz.prog 79 _ _ _) := hC
    have HG : Hid (Grew w _) := hg
    clear hC hg
    obtain ⟨u0, u1, u2, u3, u4⟩ := hx1
    obtain ⟨v0, v1, v2, v3, v4⟩ := hx2
    simp only [Nat.zero_add] at u0 u1 u2 u3 u4 v0 v1 v2 v3 v4
    go_enter Tryz.func35, Tryz.ntmps35
    go_wp2_with (go_at_call 79; refine HC.out.mono ?_; rintro e w1 ⟨rfl, hg1⟩; have hb1 := (HG.out.trans hg1).below; have g := HO.out _ hb1)
    go_ret
    exact ⟨rfl, HS.out _ hb1, Below.grownAll hb1 _⟩
end Go.Proofs.YtcipbkaopnaiiabGreatDoor
namespace Go.Proofs.YtcipbkaopnaiiabGreatDoor
open Go.RowKit Go.Lib Go.Sort

/-- What comes of a reading R: a stock, or a fault. -/
def ReadRes (w w' : World) (s : Nat → Addr) (e : Ending) (R : List Ln × Nat × Nat) : Prop :=
  (R.2.1 = 0 ∧ ∃ p b, e = .returned (.tuple #[.pointer (some ⟨p, 0, none⟩), .nilIface]) ∧ w.heap.size ≤ p ∧ w.heap.size ≤ b ∧ IsStock w' p b R.1) ∨
  (R.2.1 ≠ 0 ∧ ∃ f, e = .returned (.tuple #[.pointer none, .iface 75 (.pointer (some ⟨f, 0, none⟩))]) ∧ w.heap.size ≤ f ∧ w'.cell? ⟨f, 0, none⟩ = some (.int .i64 R.2.2) ∧ w'.cell? ⟨f, 1, none⟩ = some (err (s (R.2.1 - 1))))
/-- A line is all of a block. -/
def BlkN (w : World) (q : Nat) (a : Ln) : Prop := w.heap[q]? = some (.cells #[.string a.1.1, .int .i64 a.1.2.1, .int .i64 a.1.2.2, .string a.2.1, .int .i64 a.2.2] 69 (0, 0))
theorem BlkN.line {w : World} {q : Nat} {a : Ln} (h : BlkN w q a) : LineAt w q 0 a where
  c0 := by rw [cell_of_heap h]; rfl
  c1 := by rw [cell_of_heap h]; rfl
  c2 := by rw [cell_of_heap h]; rfl
  c3 := by rw [cell_of_heap h]; rfl
  c4 := by rw [cell_of_heap h]; rfl
theorem BlkN.frozen {w : World} {q : Nat} {a : Ln} (h : BlkN w q a) (o : Nat) : w.frozen? ⟨q, o, none⟩ = false := frozen_of_heap h o
theorem BlkN.lt {w : World} {q : Nat} {a : Ln} (h : BlkN w q a) : q < w.heap.size := h.line.lt
theorem BlkN.below {w w' : World} {q : Nat} {a : Ln} (h : BlkN w q a) (hb : Below w.heap.size w w') : BlkN w' q a := (hb.block q h.lt).trans h
/-- Five cells are stored. -/
abbrev set5 (w : World) (q : Nat) (a : Ln) : World := ((((w.setCell ⟨q, 0, none⟩ (.string a.1.1)).setCell ⟨q, 1, none⟩ (.int .i64 a.1.2.1)).setCell ⟨q, 2, none⟩ (.int .i64 a.1.2.2)).setCell ⟨q, 3, none⟩ (.string a.2.1)).setCell ⟨q, 4, none⟩ (.int .i64 a.2.2)
theorem BlkN.set5 {w : World} {q : Nat} {a : Ln} (h : BlkN w q a) (x : Ln) : BlkN (set5 w q x) q x := by
  have h1 := Joins.block_setCell (i := 0) h (.string x.1.1)
  have h2 := Joins.block_setCell (i := 1) h1 (.int .i64 x.1.2.1)
  have h3 := Joins.block_setCell (i := 2) h2 (.int .i64 x.1.2.2)
  have h4 := Joins.block_setCell (i := 3) h3 (.string x.2.1)
  have h5 := Joins.block_setCell (i := 4) h4 (.int .i64 x.2.2)
  unfold BlkN
  rw [h5]
  rfl
theorem set5_other (w : World) (q : Nat) (x : Ln) (k : Nat) (h : k ≠ q) : (set5 w q x).heap[k]? = w.heap[k]? := by
  unfold set5
  rw [Below.heap_setCell _ _ _ _ h, Below.heap_setCell _ _ _ _ h, Below.heap_setCell _ _ _ _ h, Below.heap_setCell _ _ _ _ h, Below.heap_setCell _ _ _ _ h]
/-- While a text is read: the stock p, b; the line ahead in block q. -/
structure RdInv (w wr : World) (p b q : Nat) (m : List Ln) (a : Ln) : Prop where
  st : IsStock wr p b m
  ah : BlkN wr q a
  bl : Below w.heap.size w wr
  hp : w.heap.size ≤ p
  hb : w.heap.size ≤ b
  hq : w.heap.size ≤ q
  hqp : p ≠ q
  hqb : b ≠ q
theorem RdInv.later {w wr w' : World} {p b q : Nat} {m : List Ln} {a : Ln} (h : RdInv w wr p b q m a) (hb : Below wr.heap.size wr w') : RdInv w w' p b q m a :=
  ⟨h.st.all hb, h.ah.below hb, h.bl.trans (hb.mono h.bl.size), h.hp, h.hb, h.hq, h.hqp, h.hqb⟩
theorem RdInv.grown {w wr w' : World} {p b q : Nat} {m m' : List Ln} {a : Ln} (h : RdInv w wr p b q m a) (hg : wr.grownBy w' (some b)) (hs : IsStock w' p b m') : RdInv w w' p b q m' a :=
  ⟨hs, (hg.block q h.ah.lt (by simp; exact fun e => h.hqb e.symm)).trans h.ah, grown_below h.bl h.hb hg, h.hp, h.hb, h.hq, h.hqp, h.hqb⟩
theorem RdInv.set {w wr : World} {p b q : Nat} {m : List Ln} {a : Ln} (h : RdInv w wr p b q m a) (x : Ln) : RdInv w (set5 wr q x) p b q m x :=
  ⟨⟨(World.cell?_of_block (a := ⟨p, 0, none⟩) (set5_other wr q x p h.hqp)).trans h.st.cell, h.st.map.of_block (set5_other wr q x b h.hqb), h.st.wf⟩, h.ah.set5 x, below_set5 h.bl h.hq _ _ _ _ _, h.hp, h.hb, h.hq, h.hqp, h.hqb⟩
/-! ### plain facts -/
def lastOr (m : List Ln) : Ln := m.getLast?.getD zeroN
theorem zeroN_ahead {x : Ln} (h : okN x) : aheadN zeroN x = true := by
  have hn := (okP_bounds h.1).1
  have hne : x.1.1.data.toList ≠ [] := by
    intro e; unfold isName at hn; rw [e] at hn; simp at hn
  have hz : zLt ⟨#[]⟩ x.1.1 = true := by
    unfold zLt
    cases hx : x.1.1.data.toList with
    | nil => exact absurd hx hne
    | cons a l => simp
  rw [aheadN_parts, if_neg]
  · rw [aheadP_iff]
    exact Or.inl hz
  · intro e
    rw [← e] at hne
    exact hne rfl
theorem ahead_behind (m : List Ln) {x : Ln} (h : okN x) : aheadN (lastOr m) x = behind m x := by
  unfold lastOr behind
  cases m.getLast? with
  | none => exact zeroN_ahead h
  | some l => rfl
theorem behE_step {m : List Ln} {l : List UInt8} (h : lnErr l = 0) : behE m (lastOr m) (lnOf l) = stepE m l := by
  have hok := (lnOf_facts h).1
  unfold behE stepE
  rw [if_pos h, ahead_behind m hok]
theorem behL_step {m : List Ln} {l : List UInt8} (h0 : stepE m l = 0) : behL m (lastOr m) (lnOf l) = stepM m l := by
  obtain ⟨h1, h2, h3⟩ := stepE_zero h0
  have hok := (lnOf_facts h1).1
  unfold behL stepM
  rw [ahead_behind m hok, if_pos h2]
theorem behL_err {m : List Ln} {a x : Ln} (h : behE m a x ≠ 0) : behL m a x = m := by
  unfold behE at h
  unfold behL
  split
  · rename_i ha
    rw [if_pos ha] at h
    exact putL_err h
  · rfl
theorem lastOr_step {m : List Ln} (hs : Sorted m) {l : List UInt8} (h0 : stepE m l = 0) : lastOr (stepM m l) = lnOf l := by
  rw [stepM_last hs h0]; unfold lastOr; simp
/-- How long a string's slot is. -/
def szOf : Value → Nat
  | .string s => s.size
  | _ => 0
theorem szOf_list (l : List UInt8) : szOf (.string ⟨l.toArray⟩) = l.length := mk_size l
/-- What is left to be read: l, from line i on. -/
structure Left (R : List Ln × Nat × Nat) (l : List UInt8) (i : Nat) (m : List Ln) : Prop where
  eq : R = readS m i (splitL 10 l)
  wf : Wf m
  len : l.length + i ≤ 20000
theorem Left.done {R : List Ln × Nat × Nat} {i : Nat} {m : List Ln} (h : Left R [] i m) : R = (m, 0, 0) := by
  rw [h.eq, split_none rfl, readS_last]; simp
theorem Left.cut {R : List Ln × Nat × Nat} {l : List UInt8} {i : Nat} {m : List Ln} (h : Left R l i m) (h1 : has 10 l = false) (h2 : l ≠ []) : R = ([], 1, i) := by
  rw [h.eq, split_none h1, readS_last, if_neg h2]
theorem Left.bad {R : List Ln × Nat × Nat} {l : List UInt8} {i : Nat} {m : List Ln} (h : Left R l i m) (h1 : has 10 l = true) (h2 : stepE m (pre 10 l) ≠ 0) : R = ([], stepE m (pre 10 l), i) := by
  rw [h.eq, split_some h1, readS_step _ _ _ (split_pos 10 _), if_neg h2]
theorem Left.good {R : List Ln × Nat × Nat} {l : List UInt8} {i : Nat} {m : List Ln} (h : Left R l i m) (h1 : has 10 l = true) (h2 : stepE m (pre 10 l) = 0) : Left R (post 10 l) (i + 1) (stepM m (pre 10 l)) ∧ (post 10 l).length < l.length := by
  have hlt := pre_length_lt 10 l h1
  have hpl : (post 10 l).length < l.length := by rw [← drop_pre, List.length_drop]; omega
  refine ⟨⟨?_, h.wf.put _ _ _, by have := h.len; omega⟩, hpl⟩
  rw [h.eq, split_some h1, readS_step _ _ _ (split_pos 10 _), if_pos h2]
end Go.Proofs.YtcipbkaopnaiiabGreatDoor
namespace Go.Proofs.YtcipbkaopnaiiabGreatDoor
open Go.RowKit Go.Lib Go.Sort

theorem bare_any (c : Int) (w : World) : Calls Tryz.prog 36 #[.int .i64 c] w fun e w' => e = .returned (.agg #[.int .i64 c, .int .i64 (-1)]) ∧ Below w.heap.size w w' := by
  go_enter Tryz.func36, Tryz.ntmps36
  go_wp2
  exact bodyPost_ret (v := .agg #[.int .i64 c, .int .i64 (-1)]) (by simp [results, Tryz.results36, go_sem]) rfl ⟨rfl, (Below.refl _ w).alloc (Nat.le_refl _) _⟩
theorem fine_any (w : World) : Calls Tryz.prog 40 #[] w fun e w' => e = .returned (.agg #[.int .i64 0, .int .i64 (-1)]) ∧ Below w.heap.size w w' := by
  go_enter Tryz.func40, Tryz.ntmps40
  go_wp2
  exact bodyPost_ret (v := .agg #[.int .i64 0, .int .i64 (-1)]) (by simp [results, Tryz.results40, go_sem]) rfl ⟨rfl, (Below.refl _ w).alloc (Nat.le_refl _) _⟩
/-- While a text is read: the results' blocks, the stock's, the lines of the text. -/
structure RsW (w wr : World) (qo g : Nat) (L : List (List UInt8)) (v : Value) : Prop where
  bl : Below w.heap.size w wr
  res : wr.heap[w.heap.size]? = some (.cells #[.slice none 0 0] 30 (0, 0))
  flt : wr.heap[w.heap.size + 1]? = some (.cells #[.int .i64 0, .int .i64 0] 32 (0, 0))
  out : wr.heap[qo]? = some (.cells #[v] 30 (0, 0))
  row : ∀ k p, L[k]? = some p → wr.cell? ⟨g, k, none⟩ = some (.string ⟨p.toArray⟩)
  h1 : w.heap.size + 1 < qo
  h2 : g ≠ qo
theorem blk_lt {w : World} {b : Nat} {o : Obj} (h : w.heap[b]? = some o) : b < w.heap.size := (Array.getElem?_eq_some_iff.1 h).1
theorem RsW.later {w wr w' : World} {qo g : Nat} {L : List (List UInt8)} {v : Value} (h : RsW w wr qo g L v) (hb : Below wr.heap.size wr w') : RsW w w' qo g L v :=
  ⟨h.bl.trans (hb.mono h.bl.size), (hb.block _ (blk_lt h.res)).trans h.res, (hb.block _ (blk_lt h.flt)).trans h.flt, (hb.block _ (blk_lt h.out)).trans h.out, fun k p hk => (hb.cell (p := ⟨g, k, none⟩) (cell_lt (h.row k p hk))).trans (h.row k p hk), h.h1, h.h2⟩
theorem RsW.set {w wr : World} {qo g : Nat} {L : List (List UInt8)} {v : Value} (h : RsW w wr qo g L v) (u : Value) : RsW w (wr.setCell ⟨qo, 0, none⟩ u) qo g L u :=
  ⟨h.bl.setCell (p := ⟨qo, 0, none⟩) (by have := h.h1; simp; omega) _, (Below.heap_setCell wr ⟨qo, 0, none⟩ u _ (by have := h.h1; simp; omega)).trans h.res, (Below.heap_setCell wr ⟨qo, 0, none⟩ u _ (by have := h.h1; simp; omega)).trans h.flt, by simpa using Joins.block_setCell (i := 0) h.out u, fun k p hk => (World.cell?_of_block (a := ⟨g, k, none⟩) (Below.heap_setCell wr ⟨qo, 0, none⟩ u g h.h2)).trans (h.row k p hk), h.h1, h.h2⟩
theorem RsW.cells {w wr : World} {qo g : Nat} {L : List (List UInt8)} {v : Value} (h : RsW w wr qo g L v) : wr.cell? ⟨w.heap.size, 0, none⟩ = some (.slice none 0 0) ∧ wr.frozen? ⟨w.heap.size, 0, none⟩ = false ∧ wr.cell? ⟨w.heap.size + 1, 0, none⟩ = some (.int .i64 0) ∧ wr.cell? ⟨w.heap.size + 1, 1, none⟩ = some (.int .i64 0) ∧ (∀ o, wr.frozen? ⟨w.heap.size + 1, o, none⟩ = false) ∧ wr.cell? ⟨qo, 0, none⟩ = some v ∧ wr.frozen? ⟨qo, 0, none⟩ = false :=
  ⟨by rw [cell_of_heap h.res]; rfl, frozen_of_heap h.res 0, by rw [cell_of_heap h.flt]; rfl, by rw [cell_of_heap h.flt]; rfl, fun o => frozen_of_heap h.flt o, by rw [cell_of_heap h.out]; rfl, frozen_of_heap h.out 0⟩
/-- What comes of a reading R. -/
def RsRes (w' : World) (e : Ending) (R : List Ln × Nat × Nat) : Prop :=
  (R.2.1 = 0 ∧ ∃ v, e = .returned (.tuple #[.agg #[v], .agg #[.int .i64 0, .int .i64 (-1)]]) ∧ RefS w' v R.1) ∨
  (R.2.1 ≠ 0 ∧ e = .returned (.tuple #[.agg #[.slice none 0 0], .agg #[.int .i64 R.2.1, .int .i64 R.2.2]]))
/-- What is left to be read: the lines from the k-th on. -/
structure LeftR (R : List Ln × Nat × Nat) (L : List (List UInt8)) (k : Nat) (m : List Ln) : Prop where
  eq : R = readS m k (L.drop k)
  wf : Wf m
  len : m.length = k
theorem LeftR.bad {R : List Ln × Nat × Nat} {L : List (List UInt8)} {k : Nat} {m : List Ln} {p : List UInt8} (h : LeftR R L k m) (hk : k + 1 < L.length) (hp : L[k]? = some p) (h0 : stepE m p ≠ 0) : R = ([], stepE m p, k) := by
  obtain ⟨hlt, e⟩ := List.getElem?_eq_some_iff.1 hp
  rw [h.eq, List.drop_eq_getElem_cons hlt, e, readS_step _ _ _ (by intro hn; have := congrArg List.length hn; simp at this; omega), if_neg h0]
theorem LeftR.good {R : List Ln × Nat × Nat} {L : List (List UInt8)} {k : Nat} {m : List Ln} {p : List UInt8} (h : LeftR R L k m) (hk : k + 1 < L.length) (hp : L[k]? = some p) (h0 : stepE m p = 0) : LeftR R L (k + 1) (stepM m p) := by
  obtain ⟨hlt, e⟩ := List.getElem?_eq_some_iff.1 hp
  refine ⟨?_, h.wf.put _ _ _, ?_⟩
  · rw [h.eq, List.drop_eq_getElem_cons hlt, e, readS_step _ _ _ (by intro hn; have := congrArg List.length hn; simp at this; omega), if_pos h0]
  · rw [stepM_last h.wf.sorted h0]; simp [h.len]
theorem LeftR.last {R : List Ln × Nat × Nat} {L : List (List UInt8)} {k : Nat} {m : List Ln} {p : List UInt8} (h : LeftR R L k m) (hk : k + 1 = L.length) (hp : L[k]? = some p) : R = if p = [] then (m, 0, 0) else ([], 1, k) := by
  obtain ⟨hlt, e⟩ := List.getElem?_eq_some_iff.1 hp
  rw [h.eq, List.drop_eq_getElem_cons hlt, e, List.drop_eq_nil_of_le (by omega), readS_last]
theorem behind_at {m : List Ln} {j : Nat} {l x : Ln} (hl : m[j]? = some l) (hm : m.length = j + 1) : behind m x = aheadN l x := by
  have : m.getLast? = some l := by rw [List.getLast?_eq_getElem?, hm]; exact hl
  unfold behind; rw [this]
set_option maxRecDepth 100000 in
set_option maxHeartbeats 4000000 in
theorem rstock_long (x : ByteArray) (w : World) (hz : 20000 < x.size) (hm : x.size ≤ maxLen) :
    Calls Tryz.prog 8 #[.string x] w fun e w' => e = .returned (.tuple #[.agg #[.slice none 0 0], .agg #[.int .i64 2, .int .i64 (-1)]]) ∧ Below w.heap.size w w' := by
  unfold maxLen at hm
  have hB : Below w.heap.size w ((w.alloc (.cells #[.slice none 0 0] 30)).alloc (.cells #[.int .i64 0, .int .i64 0] 32)) := ((Below.refl _ w).alloc (Nat.le_refl _) _).alloc (by simp) _
  have k0 : ((w.alloc (.cells #[.slice none 0 0] 30)).alloc (.cells #[.int .i64 0, .int .i64 0] 32)).heap[w.heap.size]? = some (.cells #[.slice none 0 0] 30 (0, 0)) := (((Below.refl _ _).alloc (Nat.le_refl _) _).block _ (by simp)).trans (heap_alloc_new w _)
  have k1 : ((w.alloc (.cells #[.slice none 0 0] 30)).alloc (.cells #[.int .i64 0, .int .i64 0] 32)).heap[w.heap.size + 1]? = some (.cells #[.int .i64 0, .int .i64 0] 32 (0, 0)) := by
    have := heap_alloc_new (w.alloc (.cells #[.slice none 0 0] 30)) (.cells #[.int .i64 0, .int .i64 0] 32)
    simpa using this
  have HB : Hid (Below _ _ _) := hB
  clear hB
  go_enter Tryz.func8, Tryz.ntmps8
  go_wp2_with (go_at_call 36; refine (bare_any 2 _).mono ?_; rintro e w1 ⟨rfl, hb1⟩; have b0 := (hb1.block _ (blk_lt k0)).trans k0; have b1 := (hb1.block _ (blk_lt k1)).trans k1; have r0 : w1.cell? ⟨w.heap.size, 0, none⟩ = some (.slice none 0 0) := (by rw [cell_of_heap b0]; rfl); have f0 : w1.cell? ⟨w.heap.size + 1, 0, none⟩ = some (.int .i64 0) := (by rw [cell_of_heap b1]; rfl); have f1 : w1.cell? ⟨w.heap.size + 1, 1, none⟩ = some (.int .i64 0) := (by rw [cell_of_heap b1]; rfl); have z0 := frozen_of_heap b0 0; have z1 := frozen_of_heap b1; have l0 := blk_lt b0; have l1 := blk_lt b1)
  have hbw := HB.out.trans (hb1.mono HB.out.size)
  exact bodyPost_ret (v := .tuple #[.agg #[.slice none 0 0], .agg #[.int .i64 2, .int .i64 (-1)]]) (by simp [results, Tryz.results8, go_sem, r0, f0, f1]) rfl ⟨rfl, ((hbw.setCell (p := ⟨w.heap.size, 0, none⟩) (by simp) _).setCell (p := ⟨w.heap.size + 1, 0, none⟩) (by simp) _).setCell (p := ⟨w.heap.size + 1, 1, none⟩) (by simp) _⟩
end Go.Proofs.YtcipbkaopnaiiabGreatDoor
namespace Go.Proofs.YtcipbkaopnaiiabGreatDoor
open Go.RowKit Go.Lib Go.Sort

/-- A cell of a fault is written: the lines stay. -/
theorem RefS.putF {w : World} {v : Value} {c : Array Value} {m : List Ln} {q : Nat} (h : RefS w v m) (i : Nat) (u' : Value) (hq : w.heap[q]? = some (.cells c 32 (0, 0))) : RefS (w.setCell ⟨q, i, none⟩ u') v m ∧ (w.setCell ⟨q, i, none⟩ u').heap[q]? = some (.cells (c.setIfInBounds i u') 32 (0, 0)) := by
  refine ⟨ownsRow_setCell_other h (fun e => ?_) _, Joins.block_setCell (i := i) hq u'⟩
  obtain ⟨c', fz, hc⟩ := ownsRow_kind h _ e
  rw [hc] at hq
  simp at hq
theorem RsW.other {w wr : World} {qo g : Nat} {L : List (List UInt8)} {v : Value} (h : RsW w wr qo g L v) (b : Nat) (u : Value) (h0 : w.heap.size + 1 < b) (h1 : b ≠ qo) (h2 : g ≠ b) : RsW w (wr.setCell ⟨b, 0, none⟩ u) qo g L v :=
  ⟨h.bl.setCell (p := ⟨b, 0, none⟩) (by simp; omega) _, (Below.heap_setCell wr ⟨b, 0, none⟩ u _ (by simp; omega)).trans h.res, (Below.heap_setCell wr ⟨b, 0, none⟩ u _ (by simp; omega)).trans h.flt, (Below.heap_setCell wr ⟨b, 0, none⟩ u _ (by simp; exact fun e => h1 e.symm)).trans h.out, fun k p hk => (World.cell?_of_block (a := ⟨g, k, none⟩) (Below.heap_setCell wr ⟨b, 0, none⟩ u g h2)).trans (h.row k p hk), h.h1, h.h2⟩
set_option maxRecDepth 100000 in
set_option maxHeartbeats 16000000 in
theorem rstock_in (x : ByteArray) (w : World) (hz : x.size ≤ 20000) :
    Calls Tryz.prog 8 #[.string x] w fun e w' => RsRes w' e (readS [] 0 (splitL 10 x.data.toList)) ∧ Below w.heap.size w w' := by
  have hL : LeftR (readS [] 0 (splitL 10 x.data.toList)) (splitL 10 x.data.toList) 0 [] := ⟨rfl, Wf.nil, rfl⟩
  generalize hR : readS [] 0 (splitL 10 x.data.toList) = R at *
  clear hR
  have hB : Below w.heap.size w ((w.alloc (.cells #[.slice none 0 0] 30)).alloc (.cells #[.int .i64 0, .int .i64 0] 32)) := ((Below.refl _ w).alloc (Nat.le_refl _) _).alloc (by simp) _
  have k0 : ((w.alloc (.cells #[.slice none 0 0] 30)).alloc (.cells #[.int .i64 0, .int .i64 0] 32)).heap[w.heap.size]? = some (.cells #[.slice none 0 0] 30 (0, 0)) := (((Below.refl _ _).alloc (Nat.le_refl _) _).block _ (by simp)).trans (heap_alloc_new w _)
  have k1 : ((w.alloc (.cells #[.slice none 0 0] 30)).alloc (.cells #[.int .i64 0, .int .i64 0] 32)).heap[w.heap.size + 1]? = some (.cells #[.int .i64 0, .int .i64 0] 32 (0, 0)) := by
    have := heap_alloc_new (w.alloc (.cells #[.slice none 0 0] 30)) (.cells #[.int .i64 0, .int .i64 0] 32)
    simpa using this
  have hcut := refCut x 10 ((w.alloc (.cells #[.slice none 0 0] 30)).alloc (.cells #[.int .i64 0, .int .i64 0] 32)) (by omega)
  have hlen := split_length 10 x.data.toList
  have hpos : 1 ≤ (splitL 10 x.data.toList).length := List.length_pos_iff.2 (split_pos 10 _)
  have HP : Hid (∀ p ∈ splitL 10 x.data.toList, p.length ≤ 20000) := fun p hp => by
    have := split_le 10 x.data.toList p hp
    rw [size_len] at this; omega
  rw [size_len] at hlen
  generalize splitL 10 x.data.toList = L at *
  have HL : Hid (LeftR R L 0 []) := hL
  have HB : Hid (Below _ _ _) := hB
  have HC : Hid (Calls Tryz.prog 37 _ _ _) := hcut
  have K0 : Hid (_ = some (Obj.cells #[.slice none 0 0] 30 (0, 0))) := k0
  have K1 : Hid (_ = some (Obj.cells #[.int .i64 0, .int .i64 0] 32 (0, 0))) := k1
  clear hL hB hcut k0 k1
  generalize hln : L.length = ln at *
  have HN : Hid (L.length = ln) := hln
  clear hln
  go_enter Tryz.func8, Tryz.ntmps8
  go_wp2_with (go_at_call 37; refine HC.out.mono ?_; rintro e w1 ⟨g, cap, rfl, hown, hb1⟩)
  have hI : RsW w (w1.alloc (.cells #[.slice none 0 0] 30)) w1.heap.size g L (.slice none 0 0) := by
    have hb2 : Below w1.heap.size w1 (w1.alloc (.cells #[.slice none 0 0] 30)) := (Below.refl _ _).alloc (Nat.le_refl _) _
    have hbw := HB.out.trans (hb1.mono HB.out.size)
    have hsz := hb1.size
    simp at hsz
    have hg : g < w1.heap.size := by
      have := (hown.lt g rfl).2
      exact this
    refine ⟨hbw.trans (hb2.mono hbw.size), (hb2.block _ (by omega)).trans ((hb1.block _ (by simp; omega)).trans K0.out), (hb2.block _ (by omega)).trans ((hb1.block _ (by simp)).trans K1.out), heap_alloc_new w1 _, fun k p hk => ?_, by omega, by omega⟩
    have hkl := (List.getElem?_eq_some_iff.1 hk).1
    have hc := hown.cellAt k (by rw [Nat.mul_one, ← HN.out]; exact hkl)
    rw [(hb2.cell (p := ⟨g, k, none⟩) hg)]
    exact hc.trans (by unfold strs; simp [hk])
  have hrf : RefS (w1.alloc (.cells #[.slice none 0 0] 30)) (.slice none 0 0) [] := RefS.nil _
  generalize w1.alloc (.cells #[.slice none 0 0] 30) = w2 at *
  generalize w1.heap.size = qo at *
  clear hown hb1 HB HC K0 K1
  have hw1 : IntKind.i64.wrap ((ln : Int) - 1) = (ln : Int) - 1 := by rw [IntKind.wrap_i64]; omega
  go_loopw [6] (fun i wr => ∃ (k : Nat) (m : List Ln) (v : Value), k + 1 ≤ ln ∧ i = .int .i64 k ∧ RsW w wr qo g L v ∧ RefS wr v m ∧ LeftR R L k m) (fun i _ => ln - (RowKit.intOf i).toNat)
  case atStart => exact ⟨0, [], _, by omega, rfl, hI, hrf, HL.out⟩
  case round =>
    clear hI hrf HL
    obtain ⟨k, m, v, hk, rfl, hI, hrf, hl⟩ := hrel
    obtain ⟨ao, kv, cv, rfl⟩ := own_sliceN hrf
    by_cases hlt : k + 1 < ln
    · obtain ⟨p, hp⟩ : ∃ p, L[k]? = some p := ⟨_, List.getElem?_eq_getElem (by rw [HN.out]; omega)⟩
      have hpl : p.length ≤ 20000 := HP.out p (List.mem_of_getElem? hp)
      have hrow := hI.row k p hp
      have HCp : Hid (∀ w1, Calls Tryz.prog 37 #[.string ⟨p.toArray⟩, .int .u8 32] w1 fun e w' => ∃ g cap, e = .returned (.slice (some ⟨g, 0, none⟩) (splitL 32 p).length cap) ∧ w'.ownsRow w1.heap.size 9 1 (.slice (some ⟨g, 0, none⟩) (splitL 32 p).length cap) (splitL 32 p).length (strs (splitL 32 p)) ∧ Below w1.heap.size w1 w') := fun w1 => by
        have := refCut ⟨p.toArray⟩ 32 w1 (by rw [mk_size]; omega)
        rw [bytes_toList] at this
        exact this
      have HRl : Hid (∀ g cap w1, w1.ownsRow wr.heap.size 9 1 (.slice (some ⟨g, 0, none⟩) (splitL 32 p).length cap) (splitL 32 p).length (strs (splitL 32 p)) → Calls Tryz.prog 38 #[.slice (some ⟨g, 0, none⟩) (splitL 32 p).length cap] w1 fun e w' => e = .returned (.tuple #[agN (readN p).1, .int .i64 (readN p).2]) ∧ Below w1.heap.size w1 w') := fun g cap w1 ho => rline_any p _ g cap w1 (by omega) ho
      have hki : (0 : Int) ≤ (k : Int) := by omega
      have hkl : (k : Int) < (ln : Int) - 1 := by omega
      have hkl2 : k < ln := by omega
      generalize (⟨p.toArray⟩ : ByteArray) = zp at *
      generalize (splitL 32 p).length = np at *
      by_cases hln0 : lnErr p = 0
      · have ern : readN p = (lnOf p, 0) := by unfold readN; rw [if_pos hln0]
        rw [ern] at HRl
        have hok := (lnOf_facts hln0).1
        have hwf := hl.wf
        have hz1 : (lnOf p).1.1.size ≤ maxLen := by have := name_short (okP_bounds hok.1).1; unfold maxLen; omega
        have hz2 : (lnOf p).2.1.size ≤ maxLen := by have := name_short hok.2.1; unfold maxLen; omega
        have HPu : Hid (∀ w1, RefS w1 (.slice ao kv cv) m → Calls Tryz.prog 13 #[.agg #[.slice ao kv cv], agP (lnOf p).1, .string (lnOf p).2.1, .int .i64 (lnOf p).2.2] w1 _) := fun w1 hr => refPut_any _ m (lnOf p).1 (lnOf p).2.1 (lnOf p).2.2 w1 hr hwf hz1 hz2
        by_cases hbh : behind m (lnOf p) = true
        · have hst : stepE m p = putE m (lnOf p).1 (lnOf p).2.1 (lnOf p).2.2 := by unfold stepE; rw [if_pos hln0, if_pos hbh]
          by_cases hpe : putE m (lnOf p).1 (lnOf p).2.1 (lnOf p).2.2 = 0
          · have HLG : Hid (LeftR R L (k + 1) (stepM m p)) := hl.good (by rw [HN.out]; exact hlt) hp (by rw [hst]; exact hpe)
            have HSM : Hid (stepM m p = putL m (lnOf p).1 (lnOf p).2.1 (lnOf p).2.2) := rfl
            rw [hpe] at HPu
            rw [HSM.out] at HLG
            clear HSM
            generalize putL m (lnOf p).1 (lnOf p).2.1 (lnOf p).2.2 = m2' at *
            rcases Nat.eq_zero_or_pos k with hk0 | hk0
            · have hkd : decide (0 < k) = false := by simp; omega
              clear hbh hst hpe hok hz1 hz2 hln0 ern hpl hl hwf hk0
              generalize lnOf p = xx at *
              obtain ⟨⟨x0, x1, x2⟩, x3, x4⟩ := xx
              unfold agN agP at *
              simp only at *
              go_wp2_with (first | (go_at_call 37; refine (HCp.out wr).mono ?_; rintro e w1 ⟨g1, cap1, rfl, hown1, hb1⟩; have hI1 := hI.later hb1; have hrf1 := hrf.all hb1) | (go_at_call 38; refine (HRl.out g1 cap1 w1 hown1).mono ?_; rintro e w2 ⟨rfl, hb2⟩; have hI2 := hI1.later hb2; have hrf2 := hrf1.all hb2; obtain ⟨W3, hW3⟩ : ∃ W3, W3 = w2.alloc (.cells #[.string x0, .int .i64 x1, .int .i64 x2, .string x3, .int .i64 x4] 69) := ⟨_, rfl⟩; have hal := hW3.symm; have hb3 : Below w2.heap.size w2 W3 := (by rw [hW3]; exact (Below.refl _ _).alloc (Nat.le_refl _) _); have hX3 : LineAt W3 w2.heap.size 0 ((x0, x1, x2), x3, x4) := (by rw [hW3]; exact LineAt.new w2 ((x0, x1, x2), x3, x4) 69 _ rfl); have hI3 := hI2.later hb3; have hrf3 := hrf2.all hb3; have hX3' := hX3; obtain ⟨n0, n1, n2, n3, n4⟩ := hX3; obtain ⟨r0, rz0, f0, f1, fz, o0, oz⟩ := hI3.cells; simp only [Nat.zero_add] at n0 n1 n2 n3 n4; have hlq := blk_lt hI3.res; have hlf := blk_lt hI3.flt; have hlo := blk_lt hI3.out; have hgW : g < W3.heap.size := cell_lt (hI3.row k p hp); obtain ⟨W4, hW4⟩ : ∃ W4, W4 = W3.alloc (.cells #[.slice none 0 0] 30) := ⟨_, rfl⟩; have hal4 := hW4.symm; have hb4 : Below W3.heap.size W3 W4 := (by rw [hW4]; exact (Below.refl _ _).alloc (Nat.le_refl _) _); have hy4 : W4.heap[W3.heap.size]? = some (.cells #[.slice none 0 0] 30 (0, 0)) := (by rw [hW4]; exact heap_alloc_new W3 _); have hI4 := hI3.later hb4; have hrf4 := hrf3.all hb4; obtain ⟨m0, m1, m2, m3, m4⟩ := hX3'.below hb4; obtain ⟨s0, sz0, g0, g1, gz, p0, pz⟩ := hI4.cells; simp only [Nat.zero_add] at m0 m1 m2 m3 m4; have hqy : qo < W3.heap.size := blk_lt hI3.out; clear hb4 hW4; clear hb1 hb2 hb3 hW3 hI1 hI2 hrf1 hrf2 hown1) | (go_at_call 13; refine (HPu.out _ hrf4).mono ?_; rintro e w5 ⟨v5, rfl, hr5, hb5⟩; obtain ⟨ao5, k5, cp5, rfl⟩ := own_sliceN hr5; have hI5 := hI4.later hb5; have hy5 := (hb5.block _ (blk_lt hy4)).trans hy4; obtain ⟨t0, tz0, u0, u1, uz, q0, qz⟩ := hI5.cells; have y0 : w5.cell? ⟨W3.heap.size, 0, none⟩ = some (.slice none 0 0) := (by rw [cell_of_heap hy5]; rfl); have yz : w5.frozen? ⟨W3.heap.size, 0, none⟩ = false := frozen_of_heap hy5 0; have hlq5 := blk_lt hI5.res; have hlf5 := blk_lt hI5.flt; have hly5 := blk_lt hy5; have a2 := hI5.h1; have a1 : w.heap.size < qo := (by omega); have a3 : w.heap.size < W3.heap.size := (by omega); have a4 : w.heap.size + 1 < W3.heap.size := (by omega); clear hb5))
              have hyq : W3.heap.size ≠ qo := by omega
              have hgy : g ≠ W3.heap.size := by omega
              have hI6 := (hI5.other W3.heap.size (.slice ao5 k5 cp5) (by have := hI5.h1; omega) hyq hgy).set (.slice ao5 k5 cp5)
              have hr6 := ((hr5.put (u' := .slice ao5 k5 cp5) hy5).1.put (u' := .slice ao5 k5 cp5) (hI5.other W3.heap.size (.slice ao5 k5 cp5) (by have := hI5.h1; omega) hyq hgy).out).1
              go_roundw
              case rel => exact ⟨k + 1, m2', _, by omega, by go_num, hI6, hr6, HLG.out⟩
              case measure => simp [RowKit.intOf]; omega
            · obtain ⟨j, hj⟩ : ∃ j, k = j + 1 := ⟨k - 1, by omega⟩
              have hm := hl.len
              obtain ⟨l, hll⟩ : ∃ l, m[j]? = some l := ⟨_, List.getElem?_eq_getElem (by omega)⟩
              have hah : aheadN l (lnOf p) = true := by rw [← behind_at hll (by omega)]; exact hbh
              have HLA : Hid (∀ w1, Calls Tryz.prog 39 #[agN l, agN (lnOf p)] w1 fun e w' => e = .returned (.bool true) ∧ Below w1.heap.size w1 w') := fun w1 => by
                have := lineAhead_any l (lnOf p) w1
                rw [hah] at this
                exact this
              obtain ⟨gm, hao, hkv, HLn⟩ : ∃ gm, ao = some ⟨gm, 0, none⟩ ∧ kv = k ∧ Hid (∀ w1, RefS w1 (.slice ao kv cv) m → LineAt w1 gm (j * 5) l) := by
                obtain ⟨ao', cv', he, hs⟩ := hrf.shape
                cases he
                obtain ⟨gm, h1, _, _⟩ := hs j l hll
                refine ⟨gm, h1, hm, fun w1 hr => ?_⟩
                obtain ⟨ao2, cv2, he2, hs2⟩ := hr.shape
                cases he2
                obtain ⟨gm2, h2, _, h3⟩ := hs2 j l hll
                rw [h1] at h2
                cases h2
                exact h3
              subst hao
              have hkv' := hkv.symm
              subst hkv'
              have hj1 : (k : Int) - 1 = (j : Int) := by omega
              have hwj : IntKind.i64.wrap (j : Int) = (j : Int) := by rw [IntKind.wrap_i64]; omega
              have hk0d : decide (0 < k) = true := by simp; omega
              have hjk : j < k := by omega
              clear hbh hst hpe hok hz1 hz2 hln0 ern hpl hl hwf hah hll hm hj hk0
              obtain ⟨⟨l0, l1, l2⟩, l3, l4⟩ := l
              generalize lnOf p = xx at *
              obtain ⟨⟨x0, x1, x2⟩, x3, x4⟩ := xx
              unfold agN agP at *
              simp only at *
              go_wp2_with (first | (go_at_call 37; refine (HCp.out wr).mono ?_; rintro e w1 ⟨g1, cap1, rfl, hown1, hb1⟩; have hI1 := hI.later hb1; have hrf1 := hrf.all hb1) | (go_at_call 38; refine (HRl.out g1 cap1 w1 hown1).mono ?_; rintro e w2 ⟨rfl, hb2⟩; have hI2 := hI1.later hb2; have hrf2 := hrf1.all hb2; obtain ⟨W3, hW3⟩ : ∃ W3, W3 = w2.alloc (.cells #[.string x0, .int .i64 x1, .int .i64 x2, .string x3, .int .i64 x4] 69) := ⟨_, rfl⟩; have hal := hW3.symm; have hb3 : Below w2.heap.size w2 W3 := (by rw [hW3]; exact (Below.refl _ _).alloc (Nat.le_refl _) _); have hX3 : LineAt W3 w2.heap.size 0 ((x0, x1, x2), x3, x4) := (by rw [hW3]; exact LineAt.new w2 ((x0, x1, x2), x3, x4) 69 _ rfl); have hI3 := hI2.later hb3; have hrf3 := hrf2.all hb3; have hX3' := hX3; obtain ⟨n0, n1, n2, n3, n4⟩ := hX3; obtain ⟨r0, rz0, f0, f1, fz, o0, oz⟩ := hI3.cells; simp only [Nat.zero_add] at n0 n1 n2 n3 n4; have hlq := blk_lt hI3.res; have hlf := blk_lt hI3.flt; have hlo := blk_lt hI3.out; have hgW : g < W3.heap.size := cell_lt (hI3.row k p hp); clear hb1 hb2 hb3 hW3 hI1 hI2 hrf1 hrf2 hown1))
              have j0 := cell_regrown n0
              have j1 := cell_regrown n1
              have j2 := cell_regrown n2
              have j3 := cell_regrown n3
              have j4 := cell_regrown n4
              have jo := cell_regrown o0
              obtain ⟨e0, e1, e2, e3, e4⟩ := HLn.out W3 hrf3
              have i0 := cell_regrown e0
              have i1 := cell_regrown e1
              have i2 := cell_regrown e2
              have i3 := cell_regrown e3
              have i4 := cell_regrown e4
              have cA := fun d os => Calls.regrown_of (w := W3) (d := d) (os := os) (HLA.out _)
              clear n0 n1 n2 n3 n4 e0 e1 e2 e3 e4 r0 rz0 f0 f1 fz o0 oz hal
              refine wp_region_quiet_below (by kernel_rfl) (by kernel_rfl) ?_
              repeat (quiet_step ((go_at_call 39; exact cA _ _)))
              refine wpQuiet_nil ?_
              intro _ hw'
              obtain ⟨⟨dq, osq⟩, hw''⟩ := hw'
              subst hw''
              have hbq := below_regrown W3 dq osq
              have hI7 := hI3.later hbq
              have hrf7 := hrf3.all hbq
              have hX7 := hX3'.below hbq
              have hgW7 := Nat.lt_of_lt_of_le hgW hbq.size
              clear cA jo j0 j1 j2 j3 j4 i0 i1 i2 i3 i4 hbq hrf3 hX3' hI3 hgW hlq hlf hlo
              generalize grow (redrawn W3 dq) osq = W7 at *
              obtain ⟨W4, hW4⟩ : ∃ W4, W4 = W7.alloc (.cells #[.slice none 0 0] 30) := ⟨_, rfl⟩
              have hal4 := hW4.symm
              have hb4 : Below W7.heap.size W7 W4 := (by rw [hW4]; exact (Below.refl _ _).alloc (Nat.le_refl _) _)
              have hy4 : W4.heap[W7.heap.size]? = some (.cells #[.slice none 0 0] 30 (0, 0)) := (by rw [hW4]; exact heap_alloc_new W7 _)
              have hI4 := hI7.later hb4
              have hrf4 := hrf7.all hb4
              obtain ⟨m0, m1, m2, m3, m4⟩ := hX7.below hb4
              obtain ⟨s0, sz0, g0, g1, gz, p0, pz⟩ := hI4.cells
              simp only [Nat.zero_add] at m0 m1 m2 m3 m4
              have hqy : qo < W7.heap.size := blk_lt hI7.out
              clear hb4 hW4
              go_wp2_with (first | (go_at_call 13; refine (HPu.out _ hrf4).mono ?_; rintro e w5 ⟨v5, rfl, hr5, hb5⟩; obtain ⟨ao5, k5, cp5, rfl⟩ := own_sliceN hr5; have hI5 := hI4.later hb5; have hy5 := (hb5.block _ (blk_lt hy4)).trans hy4; obtain ⟨t0, tz0, u0, u1, uz, q0, qz⟩ := hI5.cells; have y0 : w5.cell? ⟨W7.heap.size, 0, none⟩ = some (.slice none 0 0) := (by rw [cell_of_heap hy5]; rfl); have yz : w5.frozen? ⟨W7.heap.size, 0, none⟩ = false := frozen_of_heap hy5 0; have hlq5 := blk_lt hI5.res; have hlf5 := blk_lt hI5.flt; have hly5 := blk_lt hy5; have a2 := hI5.h1; have a1 : w.heap.size < qo := (by omega); have a3 : w.heap.size < W7.heap.size := (by omega); have a4 : w.heap.size + 1 < W7.heap.size := (by omega); clear hb5))
              have hyq : W7.heap.size ≠ qo := by omega
              have hgy : g ≠ W7.heap.size := by omega
              have hI6 := (hI5.other W7.heap.size (.slice ao5 k5 cp5) (by have := hI5.h1; omega) hyq hgy).set (.slice ao5 k5 cp5)
              have hr6 := ((hr5.put (u' := .slice ao5 k5 cp5) hy5).1.put (u' := .slice ao5 k5 cp5) (hI5.other W7.heap.size (.slice ao5 k5 cp5) (by have := hI5.h1; omega) hyq hgy).out).1
              go_roundw
              case rel => exact ⟨k + 1, m2', _, by omega, by go_num, hI6, hr6, HLG.out⟩
              case measure => simp [RowKit.intOf]; omega
          · have HR : Hid (R = ([], putE m (lnOf p).1 (lnOf p).2.1 (lnOf p).2.2, k)) := by
              show _ = _
              rw [← hst]; exact hl.bad (by rw [HN.out]; exact hlt) hp (by rw [hst]; exact hpe)
            have HE : Hid (putE m (lnOf p).1 (lnOf p).2.1 (lnOf p).2.2 ≠ 0) := hpe
            have hpe3 : (0 : Int) < (putE m (lnOf p).1 (lnOf p).2.1 (lnOf p).2.2 : Int) := by omega
            generalize putE m (lnOf p).1 (lnOf p).2.1 (lnOf p).2.2 = E at *
            generalize putL m (lnOf p).1 (lnOf p).2.1 (lnOf p).2.2 = m2' at *
            rcases Nat.eq_zero_or_pos k with hk0 | hk0
            · have hkd : decide (0 < k) = false := by simp; omega
              clear hbh hst hpe hok hz1 hz2 hln0 ern hpl hl hwf hk0
              generalize lnOf p = xx at *
              obtain ⟨⟨x0, x1, x2⟩, x3, x4⟩ := xx
              unfold agN agP at *
              simp only at *
              go_wp2_with (first | (go_at_call 37; refine (HCp.out wr).mono ?_; rintro e w1 ⟨g1, cap1, rfl, hown1, hb1⟩; have hI1 := hI.later hb1; have hrf1 := hrf.all hb1) | (go_at_call 38; refine (HRl.out g1 cap1 w1 hown1).mono ?_; rintro e w2 ⟨rfl, hb2⟩; have hI2 := hI1.later hb2; have hrf2 := hrf1.all hb2; obtain ⟨W3, hW3⟩ : ∃ W3, W3 = w2.alloc (.cells #[.string x0, .int .i64 x1, .int .i64 x2, .string x3, .int .i64 x4] 69) := ⟨_, rfl⟩; have hal := hW3.symm; have hb3 : Below w2.heap.size w2 W3 := (by rw [hW3]; exact (Below.refl _ _).alloc (Nat.le_refl _) _); have hX3 : LineAt W3 w2.heap.size 0 ((x0, x1, x2), x3, x4) := (by rw [hW3]; exact LineAt.new w2 ((x0, x1, x2), x3, x4) 69 _ rfl); have hI3 := hI2.later hb3; have hrf3 := hrf2.all hb3; have hX3' := hX3; obtain ⟨n0, n1, n2, n3, n4⟩ := hX3; obtain ⟨r0, rz0, f0, f1, fz, o0, oz⟩ := hI3.cells; simp only [Nat.zero_add] at n0 n1 n2 n3 n4; have hlq := blk_lt hI3.res; have hlf := blk_lt hI3.flt; have hlo := blk_lt hI3.out; have hgW : g < W3.heap.size := cell_lt (hI3.row k p hp); obtain ⟨W4, hW4⟩ : ∃ W4, W4 = W3.alloc (.cells #[.slice none 0 0] 30) := ⟨_, rfl⟩; have hal4 := hW4.symm; have hb4 : Below W3.heap.size W3 W4 := (by rw [hW4]; exact (Below.refl _ _).alloc (Nat.le_refl _) _); have hy4 : W4.heap[W3.heap.size]? = some (.cells #[.slice none 0 0] 30 (0, 0)) := (by rw [hW4]; exact heap_alloc_new W3 _); have hI4 := hI3.later hb4; have hrf4 := hrf3.all hb4; obtain ⟨m0, m1, m2, m3, m4⟩ := hX3'.below hb4; obtain ⟨s0, sz0, g0, g1, gz, p0, pz⟩ := hI4.cells; simp only [Nat.zero_add] at m0 m1 m2 m3 m4; have hqy : qo < W3.heap.size := blk_lt hI3.out; clear hb4 hW4; clear hb1 hb2 hb3 hW3 hI1 hI2 hrf1 hrf2 hown1) | (go_at_call 13; refine (HPu.out _ hrf4).mono ?_; rintro e w5 ⟨v5, rfl, hr5, hb5⟩; obtain ⟨ao5, k5, cp5, rfl⟩ := own_sliceN hr5; have hI5 := hI4.later hb5; have hy5 := (hb5.block _ (blk_lt hy4)).trans hy4; obtain ⟨t0, tz0, u0, u1, uz, q0, qz⟩ := hI5.cells; have y0 : w5.cell? ⟨W3.heap.size, 0, none⟩ = some (.slice none 0 0) := (by rw [cell_of_heap hy5]; rfl); have yz : w5.frozen? ⟨W3.heap.size, 0, none⟩ = false := frozen_of_heap hy5 0; have hlq5 := blk_lt hI5.res; have hlf5 := blk_lt hI5.flt; have hly5 := blk_lt hy5; have a2 := hI5.h1; have a1 : w.heap.size < qo := (by omega); have a3 : w.heap.size < W3.heap.size := (by omega); have a4 : w.heap.size + 1 < W3.heap.size := (by omega); clear hb5))
              have hyq : W3.heap.size ≠ qo := by omega
              have hgy : g ≠ W3.heap.size := by omega
              have hI6 := (hI5.other W3.heap.size (.slice ao5 k5 cp5) (by have := hI5.h1; omega) hyq hgy).set (.slice ao5 k5 cp5)
              refine bodyPost_ret (v := .tuple #[.agg #[.slice none 0 0], .agg #[.int .i64 E, .int .i64 k]]) (by simp [results, Tryz.results8, go_sem, t0, u0, u1]) rfl ⟨Or.inr ⟨by rw [HR.out]; exact HE.out, by rw [HR.out]⟩, ?_⟩
              exact ((hI6.bl.setCell (p := ⟨w.heap.size, 0, none⟩) (by simp) _).setCell (p := ⟨w.heap.size + 1, 0, none⟩) (by simp) _).setCell (p := ⟨w.heap.size + 1, 1, none⟩) (by simp) _
            · obtain ⟨j, hj⟩ : ∃ j, k = j + 1 := ⟨k - 1, by omega⟩
              have hm := hl.len
              obtain ⟨l, hll⟩ : ∃ l, m[j]? = some l := ⟨_, List.getElem?_eq_getElem (by omega)⟩
              have hah : aheadN l (lnOf p) = true := by rw [← behind_at hll (by omega)]; exact hbh
              have HLA : Hid (∀ w1, Calls Tryz.prog 39 #[agN l, agN (lnOf p)] w1 fun e w' => e = .returned (.bool true) ∧ Below w1.heap.size w1 w') := fun w1 => by
                have := lineAhead_any l (lnOf p) w1
                rw [hah] at this
                exact this
              obtain ⟨gm, hao, hkv, HLn⟩ : ∃ gm, ao = some ⟨gm, 0, none⟩ ∧ kv = k ∧ Hid (∀ w1, RefS w1 (.slice ao kv cv) m → LineAt w1 gm (j * 5) l) := by
                obtain ⟨ao', cv', he, hs⟩ := hrf.shape
                cases he
                obtain ⟨gm, h1, _, _⟩ := hs j l hll
                refine ⟨gm, h1, hm, fun w1 hr => ?_⟩
                obtain ⟨ao2, cv2, he2, hs2⟩ := hr.shape
                cases he2
                obtain ⟨gm2, h2, _, h3⟩ := hs2 j l hll
                rw [h1] at h2
                cases h2
                exact h3
              subst hao
              have hkv' := hkv.symm
              subst hkv'
              have hj1 : (k : Int) - 1 = (j : Int) := by omega
              have hwj : IntKind.i64.wrap (j : Int) = (j : Int) := by rw [IntKind.wrap_i64]; omega
              have hk0d : decide (0 < k) = true := by simp; omega
              have hjk : j < k := by omega
              clear hbh hst hpe hok hz1 hz2 hln0 ern hpl hl hwf hah hll hm hj hk0
              obtain ⟨⟨l0, l1, l2⟩, l3, l4⟩ := l
              generalize lnOf p = xx at *
              obtain ⟨⟨x0, x1, x2⟩, x3, x4⟩ := xx
              unfold agN agP at *
              simp only at *
              go_wp2_with (first | (go_at_call 37; refine (HCp.out wr).mono ?_; rintro e w1 ⟨g1, cap1, rfl, hown1, hb1⟩; have hI1 := hI.later hb1; have hrf1 := hrf.all hb1) | (go_at_call 38; refine (HRl.out g1 cap1 w1 hown1).mono ?_; rintro e w2 ⟨rfl, hb2⟩; have hI2 := hI1.later hb2; have hrf2 := hrf1.all hb2; obtain ⟨W3, hW3⟩ : ∃ W3, W3 = w2.alloc (.cells #[.string x0, .int .i64 x1, .int .i64 x2, .string x3, .int .i64 x4] 69) := ⟨_, rfl⟩; have hal := hW3.symm; have hb3 : Below w2.heap.size w2 W3 := (by rw [hW3]; exact (Below.refl _ _).alloc (Nat.le_refl _) _); have hX3 : LineAt W3 w2.heap.size 0 ((x0, x1, x2), x3, x4) := (by rw [hW3]; exact LineAt.new w2 ((x0, x1, x2), x3, x4) 69 _ rfl); have hI3 := hI2.later hb3; have hrf3 := hrf2.all hb3; have hX3' := hX3; obtain ⟨n0, n1, n2, n3, n4⟩ := hX3; obtain ⟨r0, rz0, f0, f1, fz, o0, oz⟩ := hI3.cells; simp only [Nat.zero_add] at n0 n1 n2 n3 n4; have hlq := blk_lt hI3.res; have hlf := blk_lt hI3.flt; have hlo := blk_lt hI3.out; have hgW : g < W3.heap.size := cell_lt (hI3.row k p hp); clear hb1 hb2 hb3 hW3 hI1 hI2 hrf1 hrf2 hown1))
              have j0 := cell_regrown n0
              have j1 := cell_regrown n1
              have j2 := cell_regrown n2
              have j3 := cell_regrown n3
              have j4 := cell_regrown n4
              have jo := cell_regrown o0
              obtain ⟨e0, e1, e2, e3, e4⟩ := HLn.out W3 hrf3
              have i0 := cell_regrown e0
              have i1 := cell_regrown e1
              have i2 := cell_regrown e2
              have i3 := cell_regrown e3
              have i4 := cell_regrown e4
              have cA := fun d os => Calls.regrown_of (w := W3) (d := d) (os := os) (HLA.out _)
              clear n0 n1 n2 n3 n4 e0 e1 e2 e3 e4 r0 rz0 f0 f1 fz o0 oz hal
              refine wp_region_quiet_below (by kernel_rfl) (by kernel_rfl) ?_
              repeat (quiet_step ((go_at_call 39; exact cA _ _)))
              refine wpQuiet_nil ?_
              intro _ hw'
              obtain ⟨⟨dq, osq⟩, hw''⟩ := hw'
              subst hw''
              have hbq := below_regrown W3 dq osq
              have hI7 := hI3.later hbq
              have hrf7 := hrf3.all hbq
              have hX7 := hX3'.below hbq
              have hgW7 := Nat.lt_of_lt_of_le hgW hbq.size
              clear cA jo j0 j1 j2 j3 j4 i0 i1 i2 i3 i4 hbq hrf3 hX3' hI3 hgW hlq hlf hlo
              generalize grow (redrawn W3 dq) osq = W7 at *
              obtain ⟨W4, hW4⟩ : ∃ W4, W4 = W7.alloc (.cells #[.slice none 0 0] 30) := ⟨_, rfl⟩
              have hal4 := hW4.symm
              have hb4 : Below W7.heap.size W7 W4 := (by rw [hW4]; exact (Below.refl _ _).alloc (Nat.le_refl _) _)
              have hy4 : W4.heap[W7.heap.size]? = some (.cells #[.slice none 0 0] 30 (0, 0)) := (by rw [hW4]; exact heap_alloc_new W7 _)
              have hI4 := hI7.later hb4
              have hrf4 := hrf7.all hb4
              obtain ⟨m0, m1, m2, m3, m4⟩ := hX7.below hb4
              obtain ⟨s0, sz0, g0, g1, gz, p0, pz⟩ := hI4.cells
              simp only [Nat.zero_add] at m0 m1 m2 m3 m4
              have hqy : qo < W7.heap.size := blk_lt hI7.out
              clear hb4 hW4
              go_wp2_with (first | (go_at_call 13; refine (HPu.out _ hrf4).mono ?_; rintro e w5 ⟨v5, rfl, hr5, hb5⟩; obtain ⟨ao5, k5, cp5, rfl⟩ := own_sliceN hr5; have hI5 := hI4.later hb5; have hy5 := (hb5.block _ (blk_lt hy4)).trans hy4; obtain ⟨t0, tz0, u0, u1, uz, q0, qz⟩ := hI5.cells; have y0 : w5.cell? ⟨W7.heap.size, 0, none⟩ = some (.slice none 0 0) := (by rw [cell_of_heap hy5]; rfl); have yz : w5.frozen? ⟨W7.heap.size, 0, none⟩ = false := frozen_of_heap hy5 0; have hlq5 := blk_lt hI5.res; have hlf5 := blk_lt hI5.flt; have hly5 := blk_lt hy5; have a2 := hI5.h1; have a1 : w.heap.size < qo := (by omega); have a3 : w.heap.size < W7.heap.size := (by omega); have a4 : w.heap.size + 1 < W7.heap.size := (by omega); clear hb5))
              have hyq : W7.heap.size ≠ qo := by omega
              have hgy : g ≠ W7.heap.size := by omega
              have hI6 := (hI5.other W7.heap.size (.slice ao5 k5 cp5) (by have := hI5.h1; omega) hyq hgy).set (.slice ao5 k5 cp5)
              refine bodyPost_ret (v := .tuple #[.agg #[.slice none 0 0], .agg #[.int .i64 E, .int .i64 k]]) (by simp [results, Tryz.results8, go_sem, t0, u0, u1]) rfl ⟨Or.inr ⟨by rw [HR.out]; exact HE.out, by rw [HR.out]⟩, ?_⟩
              exact ((hI6.bl.setCell (p := ⟨w.heap.size, 0, none⟩) (by simp) _).setCell (p := ⟨w.heap.size + 1, 0, none⟩) (by simp) _).setCell (p := ⟨w.heap.size + 1, 1, none⟩) (by simp) _
        · have hst : stepE m p = 10 := by unfold stepE; rw [if_pos hln0, if_neg hbh]
          have HR : Hid (R = ([], 10, k)) := by
            show _ = _
            rw [← hst]; exact hl.bad (by rw [HN.out]; exact hlt) hp (by rw [hst]; decide)
          have HE : Hid ((10 : Nat) ≠ 0) := by show (10 : Nat) ≠ 0; decide
          have hk0 : 0 < k := by
            rcases Nat.eq_zero_or_pos k with h0 | h0
            · exfalso
              have : m = [] := List.eq_nil_of_length_eq_zero (by rw [hl.len]; exact h0)
              subst this
              exact hbh rfl
            · exact h0
          obtain ⟨j, hj⟩ : ∃ j, k = j + 1 := ⟨k - 1, by omega⟩
          have hm := hl.len
          obtain ⟨l, hll⟩ : ∃ l, m[j]? = some l := ⟨_, List.getElem?_eq_getElem (by omega)⟩
          have hah : aheadN l (lnOf p) = false := by rw [← behind_at hll (by omega)]; simpa using hbh
          have HLA : Hid (∀ w1, Calls Tryz.prog 39 #[agN l, agN (lnOf p)] w1 fun e w' => e = .returned (.bool false) ∧ Below w1.heap.size w1 w') := fun w1 => by
            have := lineAhead_any l (lnOf p) w1
            rw [hah] at this
            exact this
          obtain ⟨gm, hao, hkv, HLn⟩ : ∃ gm, ao = some ⟨gm, 0, none⟩ ∧ kv = k ∧ Hid (∀ w1, RefS w1 (.slice ao kv cv) m → LineAt w1 gm (j * 5) l) := by
            obtain ⟨ao', cv', he, hs⟩ := hrf.shape
            cases he
            obtain ⟨gm, h1, _, _⟩ := hs j l hll
            refine ⟨gm, h1, hm, fun w1 hr => ?_⟩
            obtain ⟨ao2, cv2, he2, hs2⟩ := hr.shape
            cases he2
            obtain ⟨gm2, h2, _, h3⟩ := hs2 j l hll
            rw [h1] at h2
            cases h2
            exact h3
          subst hao
          have hkv' := hkv.symm
          subst hkv'
          have hj1 : (k : Int) - 1 = (j : Int) := by omega
          have hwj : IntKind.i64.wrap (j : Int) = (j : Int) := by rw [IntKind.wrap_i64]; omega
          have hk0d : decide (0 < k) = true := by simp; omega
          have hjk : j < k := by omega
          clear hbh hst hok hz1 hz2 hln0 ern hpl hl hwf hah hll hm hj hk0
          obtain ⟨⟨l0, l1, l2⟩, l3, l4⟩ := l
          generalize lnOf p = xx at *
          obtain ⟨⟨x0, x1, x2⟩, x3, x4⟩ := xx
          unfold agN agP at *
          simp only at *
          go_wp2_with (first | (go_at_call 37; refine (HCp.out wr).mono ?_; rintro e w1 ⟨g1, cap1, rfl, hown1, hb1⟩; have hI1 := hI.later hb1; have hrf1 := hrf.all hb1) | (go_at_call 38; refine (HRl.out g1 cap1 w1 hown1).mono ?_; rintro e w2 ⟨rfl, hb2⟩; have hI2 := hI1.later hb2; have hrf2 := hrf1.all hb2; obtain ⟨W3, hW3⟩ : ∃ W3, W3 = w2.alloc (.cells #[.string x0, .int .i64 x1, .int .i64 x2, .string x3, .int .i64 x4] 69) := ⟨_, rfl⟩; have hal := hW3.symm; have hb3 : Below w2.heap.size w2 W3 := (by rw [hW3]; exact (Below.refl _ _).alloc (Nat.le_refl _) _); have hX3 : LineAt W3 w2.heap.size 0 ((x0, x1, x2), x3, x4) := (by rw [hW3]; exact LineAt.new w2 ((x0, x1, x2), x3, x4) 69 _ rfl); have hI3 := hI2.later hb3; have hrf3 := hrf2.all hb3; have hX3' := hX3; obtain ⟨n0, n1, n2, n3, n4⟩ := hX3; obtain ⟨r0, rz0, f0, f1, fz, o0, oz⟩ := hI3.cells; simp only [Nat.zero_add] at n0 n1 n2 n3 n4; have hlq := blk_lt hI3.res; have hlf := blk_lt hI3.flt; have hlo := blk_lt hI3.out; have hgW : g < W3.heap.size := cell_lt (hI3.row k p hp); clear hb1 hb2 hb3 hW3 hI1 hI2 hrf1 hrf2 hown1))
          have j0 := cell_regrown n0
          have j1 := cell_regrown n1
          have j2 := cell_regrown n2
          have j3 := cell_regrown n3
          have j4 := cell_regrown n4
          have jo := cell_regrown o0
          obtain ⟨e0, e1, e2, e3, e4⟩ := HLn.out W3 hrf3
          have i0 := cell_regrown e0
          have i1 := cell_regrown e1
          have i2 := cell_regrown e2
          have i3 := cell_regrown e3
          have i4 := cell_regrown e4
          have cA := fun d os => Calls.regrown_of (w := W3) (d := d) (os := os) (HLA.out _)
          clear n0 n1 n2 n3 n4 e0 e1 e2 e3 e4 r0 rz0 f0 f1 fz o0 oz hal
          refine wp_region_quiet_below (by kernel_rfl) (by kernel_rfl) ?_
          repeat (quiet_step ((go_at_call 39; exact cA _ _)))
          refine wpQuiet_nil ?_
          intro _ hw'
          obtain ⟨⟨dq, osq⟩, hw''⟩ := hw'
          subst hw''
          have hbq := below_regrown W3 dq osq
          have hI7 := hI3.later hbq
          have hrf7 := hrf3.all hbq
          have hX7 := hX3'.below hbq
          have hgW7 := Nat.lt_of_lt_of_le hgW hbq.size
          clear cA jo j0 j1 j2 j3 j4 i0 i1 i2 i3 i4 hbq hrf3 hX3' hI3 hgW hlq hlf hlo
          generalize grow (redrawn W3 dq) osq = W7 at *
          obtain ⟨t0, tz0, u0, u1, uz, q0, qz⟩ := hI7.cells
          have hlq7 := blk_lt hI7.res
          have hlf7 := blk_lt hI7.flt
          go_wp2
          refine bodyPost_ret (v := .tuple #[.agg #[.slice none 0 0], .agg #[.int .i64 10, .int .i64 k]]) (by simp [results, Tryz.results8, go_sem, t0, u0, u1]) rfl ⟨Or.inr ⟨by rw [HR.out]; exact HE.out, by rw [HR.out]; rfl⟩, ?_⟩
          exact ((hI7.bl.setCell (p := ⟨w.heap.size, 0, none⟩) (by simp) _).setCell (p := ⟨w.heap.size + 1, 0, none⟩) (by simp) _).setCell (p := ⟨w.heap.size + 1, 1, none⟩) (by simp) _
      · have hst : stepE m p = lnErr p := by unfold stepE; rw [if_neg hln0]
        have HR : Hid (R = ([], lnErr p, k)) := by
          show _ = _
          rw [← hst]; exact hl.bad (by rw [HN.out]; exact hlt) hp (by rw [hst]; exact hln0)
        have HE : Hid (lnErr p ≠ 0) := hln0
        have ern : readN p = (zeroN, lnErr p) := by unfold readN; rw [if_neg hln0]
        have hpe : (0 : Int) < (lnErr p : Int) := by omega
        have hpe2 : ((lnErr p : Int) == 0) = false := by simp; omega
        rw [ern] at HRl
        unfold zeroN zeroP at HRl
        clear hst hln0 ern hpl hp hl
        generalize lnErr p = E at *
        obtain ⟨x0, x1, x2, x3, x4, hx0, hx1, hx2, hx3, hx4⟩ : ∃ (x0 : ByteArray) (x1 x2 : Int) (x3 : ByteArray) (x4 : Int), (⟨#[]⟩ : ByteArray) = x0 ∧ (0 : Int) = x1 ∧ (0 : Int) = x2 ∧ (⟨#[]⟩ : ByteArray) = x3 ∧ (0 : Int) = x4 := ⟨_, _, _, _, _, rfl, rfl, rfl, rfl, rfl⟩
        have HRm : Hid (∀ g cap w1, w1.ownsRow wr.heap.size 9 1 (.slice (some ⟨g, 0, none⟩) np cap) np (strs (splitL 32 p)) → Calls Tryz.prog 38 #[.slice (some ⟨g, 0, none⟩) np cap] w1 fun e w' => e = .returned (.tuple #[agN ((x0, x1, x2), x3, x4), .int .i64 E]) ∧ Below w1.heap.size w1 w') := by
          subst hx0 hx1 hx2 hx3 hx4
          exact HRl.out
        clear HRl hx0 hx1 hx2 hx3 hx4
        rename Hid (∀ g cap w1, _) => HRl
        unfold agN at HRl
        simp only at HRl
        go_wp2_with (first | (go_at_call 37; refine (HCp.out wr).mono ?_; rintro e w1 ⟨g1, cap1, rfl, hown1, hb1⟩; have hI1 := hI.later hb1; have hrf1 := hrf.all hb1) | (go_at_call 38; refine (HRl.out g1 cap1 w1 hown1).mono ?_; rintro e w2 ⟨rfl, hb2⟩; have hI2 := hI1.later hb2; have hrf2 := hrf1.all hb2; obtain ⟨W3, hW3⟩ : ∃ W3, W3 = w2.alloc (.cells #[.string x0, .int .i64 x1, .int .i64 x2, .string x3, .int .i64 x4] 69) := ⟨_, rfl⟩; have hal := hW3.symm; have hb3 : Below w2.heap.size w2 W3 := (by rw [hW3]; exact (Below.refl _ _).alloc (Nat.le_refl _) _); have hX3 : LineAt W3 w2.heap.size 0 ((x0, x1, x2), x3, x4) := (by rw [hW3]; exact LineAt.new w2 ((x0, x1, x2), x3, x4) 69 _ rfl); have hI3 := hI2.later hb3; have hrf3 := hrf2.all hb3; obtain ⟨n0, n1, n2, n3, n4⟩ := hX3; obtain ⟨r0, rz0, f0, f1, fz, o0, oz⟩ := hI3.cells; simp only [Nat.zero_add] at n0 n1 n2 n3 n4; have hlq := blk_lt hI3.res; have hlf := blk_lt hI3.flt; have hlo := blk_lt hI3.out; clear hb1 hb2 hb3 hW3 hI1 hI2 hrf1 hrf2 hown1))
        refine bodyPost_ret (v := .tuple #[.agg #[.slice none 0 0], .agg #[.int .i64 E, .int .i64 k]]) (by simp [results, Tryz.results8, go_sem, r0, f0, f1]) rfl ⟨Or.inr ⟨by rw [HR.out]; exact HE.out, by rw [HR.out]⟩, ?_⟩
        exact ((hI3.bl.setCell (p := ⟨w.heap.size, 0, none⟩) (by simp) _).setCell (p := ⟨w.heap.size + 1, 0, none⟩) (by simp) _).setCell (p := ⟨w.heap.size + 1, 1, none⟩) (by simp) _

    · obtain ⟨p, hp⟩ : ∃ p, L[k]? = some p := ⟨_, List.getElem?_eq_getElem (by rw [HN.out]; omega)⟩
      have hrow := hI.row k p hp
      have hlast := hl.last (by rw [HN.out]; omega) hp
      have hkn : (ln : Int) - 1 = (k : Int) := by omega
      have hwk : IntKind.i64.wrap (k : Int) = (k : Int) := by rw [IntKind.wrap_i64]; omega
      obtain ⟨r0, rz0, f0, f1, fz, o0, oz⟩ := hI.cells
      have hlq := blk_lt hI.res
      have hlf := blk_lt hI.flt
      have hkl2 : k < ln := by omega
      by_cases hpe : p = []
      · rw [if_pos hpe] at hlast
        have HR : Hid (R = (m, 0, 0)) := hlast
        subst hpe
        clear hlast hp hl
        have a2 := hI.h1
        have a1 : w.heap.size < qo := by omega
        have hI0 := hI.later ((Below.refl _ wr).drew)
        have hrf0 := hrf.all ((Below.refl _ wr).drew)
        go_wp2
        go_region_held3 (fun w' => w'.cell? ⟨qo, 0, none⟩ = some (.slice ao kv cv)) (first | go_keep | exact hK1 _ | exact hK2 _ _ _)
          (first | (go_at_call 40; refine (fine_any _).mono ?_; rintro e w5 ⟨rfl, hb5⟩; have hI5 := hI0.later hb5; have hrf5 := hrf0.all hb5; obtain ⟨t0, tz0, u0, u1, uz, q0, qz⟩ := hI5.cells; have hlq5 := blk_lt hI5.res; have hlf5 := blk_lt hI5.flt; have hK1 : ∀ u, (w5.setCell ⟨w.heap.size, 0, none⟩ u).cell? ⟨qo, 0, none⟩ = some (.slice ao kv cv) := (fun u => (World.cell?_of_block (a := ⟨qo, 0, none⟩) (Below.heap_setCell w5 ⟨w.heap.size, 0, none⟩ u qo (by simp; omega))).trans q0); have hK2 : ∀ u a b, (((w5.setCell ⟨w.heap.size, 0, none⟩ u).setCell ⟨w.heap.size + 1, 0, none⟩ a).setCell ⟨w.heap.size + 1, 1, none⟩ b).cell? ⟨qo, 0, none⟩ = some (.slice ao kv cv) := (fun u a b => (World.cell?_of_block (a := ⟨qo, 0, none⟩) ((Below.heap_setCell _ ⟨w.heap.size + 1, 1, none⟩ b qo (by simp; omega)).trans ((Below.heap_setCell _ ⟨w.heap.size + 1, 0, none⟩ a qo (by simp; omega)).trans (Below.heap_setCell w5 ⟨w.heap.size, 0, none⟩ u qo (by simp; omega))))).trans q0)))
        all_goals
          go_wp2
          refine bodyPost_ret (v := .tuple #[.agg #[.slice ao kv cv], .agg #[.int .i64 0, .int .i64 (-1)]]) (by simp [results, Tryz.results8, go_sem, t0, u0, u1]) rfl ⟨Or.inl ⟨by rw [HR.out], _, rfl, ?_⟩, ?_⟩
          · rw [HR.out]
            have h1 := (hrf5.put (u' := .slice ao kv cv) hI5.res)
            have hF := (Below.heap_setCell w5 ⟨w.heap.size, 0, none⟩ (.slice ao kv cv) (w.heap.size + 1) (by simp)).trans hI5.flt
            have h2 := h1.1.putF 0 (.int .i64 0) hF
            exact (h2.1.putF 1 (.int .i64 (-1)) h2.2).1
          · exact ((hI5.bl.setCell (p := ⟨w.heap.size, 0, none⟩) (by simp) _).setCell (p := ⟨w.heap.size + 1, 0, none⟩) (by simp) _).setCell (p := ⟨w.heap.size + 1, 1, none⟩) (by simp) _
      · rw [if_neg hpe] at hlast
        have HR : Hid (R = ([], 1, k)) := hlast
        have e3 := isEmpty_of (⟨p.toArray⟩ : ByteArray) (by rw [mk_size]; exact List.length_pos_iff.2 hpe)
        have HE : Hid ((1 : Nat) ≠ 0) := by show (1 : Nat) ≠ 0; decide
        clear hlast hp hl hpe
        generalize (⟨p.toArray⟩ : ByteArray) = zp at *
        go_wp2
        refine bodyPost_ret (v := .tuple #[.agg #[.slice none 0 0], .agg #[.int .i64 1, .int .i64 k]]) (by simp [results, Tryz.results8, go_sem, r0, f0, f1]) rfl ⟨Or.inr ⟨by rw [HR.out]; exact HE.out, by rw [HR.out]; rfl⟩, ?_⟩
        exact ((hI.bl.setCell (p := ⟨w.heap.size, 0, none⟩) (by simp) _).setCell (p := ⟨w.heap.size + 1, 0, none⟩) (by simp) _).setCell (p := ⟨w.heap.size + 1, 1, none⟩) (by simp) _
end Go.Proofs.YtcipbkaopnaiiabGreatDoor
namespace Go.Proofs.YtcipbkaopnaiiabGreatDoor
open Go.RowKit Go.Lib Go.Sort

set_option maxRecDepth 100000 in
set_option maxHeartbeats 1000000 in
theorem kread_long (x : ByteArray) (w : World) (s : Nat → Addr) (hz : 20000 < x.size) (hm : x.size ≤ maxLen) (hs : Six w s) :
    Calls Tryz.prog 7 #[.string x] w fun e w' => e = .returned (.tuple #[.pointer none, err (s 1)]) ∧ Below w.heap.size w w' := by
  have hb := hs.five.two.bound
  unfold maxLen at hm
  clear hs
  go_enter Tryz.func7, Tryz.ntmps7
  go_wp2
  go_quiet (fail)
  go_wp2
  go_ret2
  exact ⟨rfl, below_drewN (Below.refl _ _) _⟩
set_option maxRecDepth 100000 in
set_option maxHeartbeats 8000000 in
theorem kread_in (x : ByteArray) (w : World) (s : Nat → Addr) (hz : x.size ≤ 20000) (hs : Six w s) :
    Calls Tryz.prog 7 #[.string x] w fun e w' => ReadRes w w' s e (readS [] 0 (splitL 10 x.data.toList)) ∧ Below w.heap.size w w' := by
  have hL : Left (readS [] 0 (splitL 10 x.data.toList)) x.data.toList 0 [] := ⟨rfl, Wf.nil, by rw [size_len]; omega⟩
  generalize readS [] 0 (splitL 10 x.data.toList) = R at *
  have HS : Hid (∀ w1, Below w.heap.size w w1 → Six w1 s) := fun w1 hb => hs.below hb
  clear hs
  have HX : Hid (x = ⟨x.data.toList.toArray⟩) := by show _ = _; simp
  generalize x.data.toList = l0 at *
  have hx := HX.out
  subst hx
  rw [mk_size] at hz
  have hz' : (⟨l0.toArray⟩ : ByteArray).size ≤ 20000 := by rw [mk_size]; exact hz
  clear HX
  go_enter Tryz.func7, Tryz.ntmps7
  go_wp2_with (go_at_call 12; refine (new_any _).mono ?_; rintro e w1 ⟨rfl, hi1, hb1⟩)
  have hI : RdInv w (w1.alloc (.cells #[.string ⟨#[]⟩, .int .i64 0, .int .i64 0, .string ⟨#[]⟩, .int .i64 0] 69)) (w.heap.size + 1) w.heap.size w1.heap.size [] (lastOr []) := by
    have hb2 : Below w1.heap.size w1 (w1.alloc (.cells #[.string ⟨#[]⟩, .int .i64 0, .int .i64 0, .string ⟨#[]⟩, .int .i64 0] 69)) := (Below.refl _ w1).alloc (Nat.le_refl _) _
    have hlt := hi1.lt
    exact ⟨hi1.all hb2, heap_alloc_new w1 _, hb1.alloc hb1.size _, by omega, Nat.le_refl _, hb1.size, by omega, by omega⟩
  generalize w1.alloc (.cells #[.string ⟨#[]⟩, .int .i64 0, .int .i64 0, .string ⟨#[]⟩, .int .i64 0] 69) = w2 at *
  clear hi1 hb1
  generalize w1.heap.size = q at *
  generalize w.heap.size + 1 = p at *
  obtain ⟨b, hbv⟩ : ∃ b, b = w.heap.size := ⟨_, rfl⟩
  have hI' : RdInv w w2 p b q [] (lastOr []) := by rw [hbv]; exact hI
  clear hI hbv
  go_loopw [0, 6] (fun sv iv wr => ∃ (l : List UInt8) (i : Nat) (m : List Ln), sv = .string ⟨l.toArray⟩ ∧ iv = .int .i64 i ∧ RdInv w wr p b q m (lastOr m) ∧ Left R l i m) (fun sv _ _ => szOf sv)
  case atStart => exact ⟨l0, 0, [], rfl, rfl, hI', hL⟩
  case round =>
    clear hz hz' hL hI'
    obtain ⟨l, i, m, rfl, rfl, hI, hl⟩ := hrel
    by_cases hne : l = []
    · subst hne
      have hR := hl.done
      have HR : Hid (R = (m, 0, 0)) := hR
      clear hR hl
      go_wp2
      go_ret2
      exact ⟨Or.inl ⟨by rw [HR.out], _, _, rfl, hI.hp, hI.hb, by rw [HR.out]; exact hI.st⟩, hI.bl⟩
    · have hlen := hl.len
      have hsz : (⟨l.toArray⟩ : ByteArray).size ≤ 20000 := by rw [mk_size]; omega
      have e3 := isEmpty_of (⟨l.toArray⟩ : ByteArray) (by rw [mk_size]; exact List.length_pos_iff.2 hne)
      have hcut := scut_any ⟨l.toArray⟩ 10 wr (by unfold maxLen; omega)
      rw [bytes_toList] at hcut
      have hi63 : (i : Int) + 1 ≤ 9223372036854775807 := by omega
      cases hh : has 10 l with
      | false =>
        have HR : Hid (R = ([], 1, i)) := hl.cut hh hne
        have ecA : cutA 10 l = l := by unfold cutA; rw [hh]; rfl
        rw [hh, ecA] at hcut
        have hrl := fun w3 (hb : Below w.heap.size w w3) => kline_cut ⟨l.toArray⟩ w3 s (by omega) (HS.out w3 hb).three
        unfold agN zeroN zeroP at hrl
        simp only at hrl
        have HC : Hid (Calls Tryz.prog 33 _ _ _) := hcut
        have HI : Hid (RdInv w wr p b q m (lastOr m)) := hI
        clear hcut hl hI ecA hh hne
        generalize (⟨(cutB 10 l).toArray⟩ : ByteArray) = zB at *
        generalize (⟨l.toArray⟩ : ByteArray) = zL at *
        go_wp2_with (first
          | (go_at_call 33; refine HC.out.mono ?_; rintro e w3 ⟨rfl, n, rfl⟩; have hI3 := HI.out.later (below_drewN (Below.refl _ wr) n))
          | (go_at_call 34; refine (hrl _ hI3.bl).mono ?_; rintro e w4 ⟨rfl, hb4⟩; have hI4 := hI3.later hb4))
        go_ret2
        refine ⟨Or.inr ⟨by rw [HR.out]; exact Nat.one_ne_zero, _, rfl, ?_, by rw [HR.out]; simp, by rw [HR.out]; simp⟩, ?_⟩
        · have := hI4.bl.size; simp; omega
        · exact (hI4.bl.alloc hI4.bl.size _).alloc (by have := hI4.bl.size; simp; omega) _
      | true =>
        have ecA : cutA 10 l = pre 10 l := cutA_yes hh
        have ecB : cutB 10 l = post 10 l := cutB_yes hh
        rw [hh, ecA, ecB] at hcut
        have hple := pre_length_le 10 l
        have hsp : (⟨(pre 10 l).toArray⟩ : ByteArray).size ≤ 20000 := by rw [mk_size]; omega
        have hrl := fun w3 (hb : Below w.heap.size w w3) => kline_any ⟨(pre 10 l).toArray⟩ w3 s (by omega) (HS.out w3 hb).three
        rw [bytes_toList] at hrl
        have HC : Hid (Calls Tryz.prog 33 _ _ _) := hcut
        have HI : Hid (RdInv w wr p b q m (lastOr m)) := hI
        by_cases hln : lnErr (pre 10 l) = 0
        · have ern : readN (pre 10 l) = (lnOf (pre 10 l), 0) := by unfold readN; rw [if_pos hln]
          rw [ern, errP_zero] at hrl
          have hok := (lnOf_facts hln).1
          have hpb := fun w3 (hst : IsStock w3 p b m) (h6 : Six w3 s) => putB_any (lastOr m) (lnOf (pre 10 l)) w3 s p b m hst (by have := name_short (okP_bounds hok.1).1; unfold maxLen; omega) (by have := name_short hok.2.1; unfold maxLen; omega) h6.five h6.order
          rw [behE_step hln] at hpb
          by_cases hs0 : stepE m (pre 10 l) = 0
          · obtain ⟨hl', hpl⟩ := hl.good hh hs0
            rw [behL_step hs0, hs0, errP_zero] at hpb
            have hlast := lastOr_step hl.wf.sorted hs0
            have HL' : Hid (Left R (post 10 l) (i + 1) (stepM m (pre 10 l))) := hl'
            have HLa : Hid (lastOr (stepM m (pre 10 l)) = lnOf (pre 10 l)) := hlast
            have HPL : Hid ((post 10 l).length < l.length) := hpl
            clear hcut hl hI ecA ecB hh hne hl' hlast hpl hok ern hln hs0 hple hsp
            generalize stepM m (pre 10 l) = m' at *
            generalize lnOf (pre 10 l) = x at *
            generalize lastOr m = a at *
            obtain ⟨⟨x0, x1, x2⟩, x3, x4⟩ := x
            obtain ⟨⟨a0, a1, a2⟩, a3, a4⟩ := a
            unfold agN at hrl hpb
            simp only at hrl hpb
            have HZB : Hid (szOf (.string (⟨(post 10 l).toArray⟩ : ByteArray)) < szOf (.string (⟨l.toArray⟩ : ByteArray))) := by show _ < _; rw [szOf_list, szOf_list]; exact HPL.out
            generalize (⟨(pre 10 l).toArray⟩ : ByteArray) = zA at *
            obtain ⟨zB, hzB⟩ : ∃ zB : ByteArray, zB = ⟨(post 10 l).toArray⟩ := ⟨_, rfl⟩
            have HZ : Hid (zB = ⟨(post 10 l).toArray⟩) := hzB
            rw [← hzB] at HC HZB
            clear hzB
            generalize (⟨l.toArray⟩ : ByteArray) = zL at *
            go_wp2_with (first
              | (go_at_call 33; refine HC.out.mono ?_; rintro e w3 ⟨rfl, n, rfl⟩; have hI3 := HI.out.later (below_drewN (Below.refl _ wr) n))
              | (go_at_call 34; refine (hrl _ hI3.bl).mono ?_; rintro e w4 ⟨rfl, hb4⟩; have hI4 := hI3.later hb4; have hI5 := hI4.later ((Below.refl _ w4).alloc (Nat.le_refl _) (.cells #[.string x0, .int .i64 x1, .int .i64 x2, .string x3, .int .i64 x4] 69)); obtain ⟨k0, k1, k2, k3, k4⟩ := hI5.ah.line; obtain ⟨n0, n1, n2, n3, n4⟩ := LineAt.new w4 ((x0, x1, x2), x3, x4) 69 _ rfl; simp only [Nat.zero_add] at k0 k1 k2 k3 k4 n0 n1 n2 n3 n4)
              | (go_at_call 35; refine (hpb _ hI5.st (HS.out _ hI5.bl)).mono ?_; rintro e w6 ⟨rfl, hi6, hg6⟩; have hI6 := hI5.grown hg6 hi6; obtain ⟨j0, j1, j2, j3, j4⟩ := hI6.ah.line; have hf6 := hI6.ah.frozen; obtain ⟨o0, o1, o2, o3, o4⟩ := (LineAt.new w4 ((x0, x1, x2), x3, x4) 69 _ rfl).of_block (hg6.block _ (by simp) (by simp; intro e; have := hI4.st.lt.2; omega)); simp only [Nat.zero_add] at j0 j1 j2 j3 j4 o0 o1 o2 o3 o4))
            go_roundw
            case rel =>
              exact ⟨post 10 l, i + 1, m', by rw [HZ.out], by go_num, by rw [HLa.out]; exact hI6.set ((x0, x1, x2), x3, x4), HL'.out⟩
            case measure => exact HZB.out
          · have HR : Hid (R = ([], stepE m (pre 10 l), i)) := hl.bad hh hs0
            have HE : Hid (stepE m (pre 10 l) ≠ 0) := hs0
            rw [behL_err (by rw [behE_step hln]; exact hs0), errP_pos s hs0] at hpb
            clear hcut hl hI ecA ecB hh hne hok ern hln hs0 hple hsp
            generalize stepE m (pre 10 l) = E at *
            generalize lnOf (pre 10 l) = x at *
            generalize lastOr m = a at *
            obtain ⟨⟨x0, x1, x2⟩, x3, x4⟩ := x
            obtain ⟨⟨a0, a1, a2⟩, a3, a4⟩ := a
            unfold agN at hrl hpb
            simp only at hrl hpb
            generalize (⟨(pre 10 l).toArray⟩ : ByteArray) = zA at *
            generalize (⟨(post 10 l).toArray⟩ : ByteArray) = zB at *
            generalize (⟨l.toArray⟩ : ByteArray) = zL at *
            go_wp2_with (first
              | (go_at_call 33; refine HC.out.mono ?_; rintro e w3 ⟨rfl, n, rfl⟩; have hI3 := HI.out.later (below_drewN (Below.refl _ wr) n))
              | (go_at_call 34; refine (hrl _ hI3.bl).mono ?_; rintro e w4 ⟨rfl, hb4⟩; have hI4 := hI3.later hb4; have hI5 := hI4.later ((Below.refl _ w4).alloc (Nat.le_refl _) (.cells #[.string x0, .int .i64 x1, .int .i64 x2, .string x3, .int .i64 x4] 69)); obtain ⟨k0, k1, k2, k3, k4⟩ := hI5.ah.line; obtain ⟨n0, n1, n2, n3, n4⟩ := LineAt.new w4 ((x0, x1, x2), x3, x4) 69 _ rfl; simp only [Nat.zero_add] at k0 k1 k2 k3 k4 n0 n1 n2 n3 n4)
              | (go_at_call 35; refine (hpb _ hI5.st (HS.out _ hI5.bl)).mono ?_; rintro e w6 ⟨rfl, hi6, hg6⟩; have hI6 := hI5.grown hg6 hi6))
            go_ret2
            refine ⟨Or.inr ⟨by rw [HR.out]; exact HE.out, _, rfl, ?_, by rw [HR.out]; simp, by rw [HR.out]; simp⟩, ?_⟩
            · have := hI6.bl.size; simp; omega
            · exact hI6.bl.alloc hI6.bl.size _
        · have hs0 : stepE m (pre 10 l) = lnErr (pre 10 l) := by unfold stepE; rw [if_neg hln]
          have HR : Hid (R = ([], lnErr (pre 10 l), i)) := by
            show _ = _
            rw [← hs0]; exact hl.bad hh (by rw [hs0]; exact hln)
          have HE : Hid (lnErr (pre 10 l) ≠ 0) := hln
          have ern : readN (pre 10 l) = (zeroN, lnErr (pre 10 l)) := by unfold readN; rw [if_neg hln]
          rw [ern, errP_pos s hln] at hrl
          clear hcut hl hI ecA ecB hh hne ern hln hs0 hple hsp
          generalize lnErr (pre 10 l) = E at *
          unfold agN zeroN zeroP at hrl
          simp only at hrl
          generalize (⟨(pre 10 l).toArray⟩ : ByteArray) = zA at *
          generalize (⟨(post 10 l).toArray⟩ : ByteArray) = zB at *
          generalize (⟨l.toArray⟩ : ByteArray) = zL at *
          go_wp2_with (first
            | (go_at_call 33; refine HC.out.mono ?_; rintro e w3 ⟨rfl, n, rfl⟩; have hI3 := HI.out.later (below_drewN (Below.refl _ wr) n))
            | (go_at_call 34; refine (hrl _ hI3.bl).mono ?_; rintro e w4 ⟨rfl, hb4⟩; have hI4 := hI3.later hb4))
          go_ret2
          refine ⟨Or.inr ⟨by rw [HR.out]; exact HE.out, _, rfl, ?_, by rw [HR.out]; simp, by rw [HR.out]; simp⟩, ?_⟩
          · have := hI4.bl.size; simp; omega
          · exact (hI4.bl.alloc hI4.bl.size _).alloc (by have := hI4.bl.size; simp; omega) _
end Go.Proofs.YtcipbkaopnaiiabGreatDoor
