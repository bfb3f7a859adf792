/-
  What stock.Read answers of a text of at most 20,000 bytes: a stock, or an error with the line's number; nothing old is turned.
-/
import Derived.Test.YtiegilnjfadhiabDoorKReadLine
import Derived.Test.YtiegilnjfadhiabDoorKPutB
import Derived.Test.YtiegilnjfadhiabDoorKRefMath
import Derived.Lib.SmallJoins
namespace Go.Proofs.YtiegilnjfadhiabDoor
open Go.RowKit Go.Lib Go.Sort

/-- The sentinels of stock.Read. -/
structure Six (w : World) (s : Nat → Addr) : Prop where
  five : Five w s
  text : w.cell? ⟨0, 0, none⟩ = some (err (s 0))
  order : w.cell? ⟨9, 0, none⟩ = some (err (s 9))
theorem Six.below {w w' : World} {s : Nat → Addr} (h : Six w s) (hb : Below w.heap.size w w') : Six w' s where
  five := h.five.below hb
  text := by rw [hb.cell (p := ⟨0, 0, none⟩) (cell_lt h.text)]; exact h.text
  order := by rw [hb.cell (p := ⟨9, 0, none⟩) (cell_lt h.order)]; exact h.order
theorem Six.three {w : World} {s : Nat → Addr} (h : Six w s) : Three w s := ⟨h.five.two, h.text⟩
theorem Sent.six {w : World} {s : Nat → Addr} (h : Sent w s) : Six w s := ⟨h.five, h.cell 0 (by decide), h.cell 9 (by decide)⟩
/-- What comes of a reading R: a stock, or a fault. -/
def ReadRes (w w' : World) (s : Nat → Addr) (e : Ending) (R : List Ln × Nat × Nat) : Prop :=
  (R.2.1 = 0 ∧ ∃ p b, e = .returned (.tuple #[.pointer (some ⟨p, 0, none⟩), .nilIface]) ∧ w.heap.size ≤ p ∧ w.heap.size ≤ b ∧ IsStock w' p b R.1) ∨
  (R.2.1 ≠ 0 ∧ ∃ f, e = .returned (.tuple #[.pointer none, .iface 93 (.pointer (some ⟨f, 0, none⟩))]) ∧ w.heap.size ≤ f ∧ w'.cell? ⟨f, 0, none⟩ = some (.int .i64 R.2.2) ∧ w'.cell? ⟨f, 1, none⟩ = some (err (s (R.2.1 - 1))))
/-- A line is all of a block. -/
def BlkN (w : World) (q : Nat) (a : Ln) : Prop := w.heap[q]? = some (.cells #[.string a.1.1, .int .i64 a.1.2.1, .int .i64 a.1.2.2, .string a.2.1, .int .i64 a.2.2] 81 (0, 0))
theorem BlkN.line {w : World} {q : Nat} {a : Ln} (h : BlkN w q a) : LineAt w q 0 a where
  c0 := by rw [cell_of_heap h]; rfl
  c1 := by rw [cell_of_heap h]; rfl
  c2 := by rw [cell_of_heap h]; rfl
  c3 := by rw [cell_of_heap h]; rfl
  c4 := by rw [cell_of_heap h]; rfl
theorem BlkN.frozen {w : World} {q : Nat} {a : Ln} (h : BlkN w q a) (o : Nat) : w.frozen? ⟨q, o, none⟩ = false := frozen_of_heap h o
theorem BlkN.lt {w : World} {q : Nat} {a : Ln} (h : BlkN w q a) : q < w.heap.size := h.line.lt
theorem BlkN.below {w w' : World} {q : Nat} {a : Ln} (h : BlkN w q a) (hb : Below w.heap.size w w') : BlkN w' q a := (hb.block q h.lt).trans h
/-- Five cells are stored. -/
abbrev set5 (w : World) (q : Nat) (a : Ln) : World := ((((w.setCell ⟨q, 0, none⟩ (.string a.1.1)).setCell ⟨q, 1, none⟩ (.int .i64 a.1.2.1)).setCell ⟨q, 2, none⟩ (.int .i64 a.1.2.2)).setCell ⟨q, 3, none⟩ (.string a.2.1)).setCell ⟨q, 4, none⟩ (.int .i64 a.2.2)
theorem BlkN.set5 {w : World} {q : Nat} {a : Ln} (h : BlkN w q a) (x : Ln) : BlkN (set5 w q x) q x := by
  have h1 := Joins.block_setCell (i := 0) h (.string x.1.1)
  have h2 := Joins.block_setCell (i := 1) h1 (.int .i64 x.1.2.1)
  have h3 := Joins.block_setCell (i := 2) h2 (.int .i64 x.1.2.2)
  have h4 := Joins.block_setCell (i := 3) h3 (.string x.2.1)
  have h5 := Joins.block_setCell (i := 4) h4 (.int .i64 x.2.2)
  unfold BlkN
  rw [h5]
  rfl
theorem set5_other (w : World) (q : Nat) (x : Ln) (k : Nat) (h : k ≠ q) : (set5 w q x).heap[k]? = w.heap[k]? := by
  unfold set5
  rw [Below.heap_setCell _ _ _ _ h, Below.heap_setCell _ _ _ _ h, Below.heap_setCell _ _ _ _ h, Below.heap_setCell _ _ _ _ h, Below.heap_setCell _ _ _ _ h]
/-- While a text is read: the stock p, b; the line ahead in block q. -/
structure RdInv (w wr : World) (p b q : Nat) (m : List Ln) (a : Ln) : Prop where
  st : IsStock wr p b m
  ah : BlkN wr q a
  bl : Below w.heap.size w wr
  hp : w.heap.size ≤ p
  hb : w.heap.size ≤ b
  hq : w.heap.size ≤ q
  hqp : p ≠ q
  hqb : b ≠ q
theorem RdInv.later {w wr w' : World} {p b q : Nat} {m : List Ln} {a : Ln} (h : RdInv w wr p b q m a) (hb : Below wr.heap.size wr w') : RdInv w w' p b q m a :=
  ⟨h.st.all hb, h.ah.below hb, h.bl.trans (hb.mono h.bl.size), h.hp, h.hb, h.hq, h.hqp, h.hqb⟩
theorem RdInv.grown {w wr w' : World} {p b q : Nat} {m m' : List Ln} {a : Ln} (h : RdInv w wr p b q m a) (hg : wr.grownBy w' (some b)) (hs : IsStock w' p b m') : RdInv w w' p b q m' a :=
  ⟨hs, (hg.block q h.ah.lt (by simp; exact fun e => h.hqb e.symm)).trans h.ah, grown_below h.bl h.hb hg, h.hp, h.hb, h.hq, h.hqp, h.hqb⟩
theorem RdInv.set {w wr : World} {p b q : Nat} {m : List Ln} {a : Ln} (h : RdInv w wr p b q m a) (x : Ln) : RdInv w (set5 wr q x) p b q m x :=
  ⟨⟨(World.cell?_of_block (a := ⟨p, 0, none⟩) (set5_other wr q x p h.hqp)).trans h.st.cell, h.st.map.of_block (set5_other wr q x b h.hqb), h.st.wf⟩, h.ah.set5 x, below_set5 h.bl h.hq _ _ _ _ _, h.hp, h.hb, h.hq, h.hqp, h.hqb⟩
/-! ### plain facts -/
def lastOr (m : List Ln) : Ln := m.getLast?.getD zeroN
theorem zeroN_ahead {x : Ln} (h : okN x) : aheadN zeroN x = true := by
  have hn := (okP_bounds h.1).1
  have hne : x.1.1.data.toList ≠ [] := by
    intro e; unfold isName at hn; rw [e] at hn; simp at hn
  have hz : zLt ⟨#[]⟩ x.1.1 = true := by
    unfold zLt
    cases hx : x.1.1.data.toList with
    | nil => exact absurd hx hne
    | cons a l => simp
  rw [aheadN_parts, if_neg]
  · rw [aheadP_iff]
    exact Or.inl hz
  · intro e
    rw [← e] at hne
    exact hne rfl
theorem ahead_behind (m : List Ln) {x : Ln} (h : okN x) : aheadN (lastOr m) x = behind m x := by
  unfold lastOr behind
  cases m.getLast? with
  | none => exact zeroN_ahead h
  | some l => rfl
theorem behE_step {m : List Ln} {l : List UInt8} (h : lnErr l = 0) : behE m (lastOr m) (lnOf l) = stepE m l := by
  have hok := (lnOf_facts h).1
  unfold behE stepE
  rw [if_pos h, ahead_behind m hok]
theorem behL_step {m : List Ln} {l : List UInt8} (h0 : stepE m l = 0) : behL m (lastOr m) (lnOf l) = stepM m l := by
  obtain ⟨h1, h2, h3⟩ := stepE_zero h0
  have hok := (lnOf_facts h1).1
  unfold behL stepM
  rw [ahead_behind m hok, if_pos h2]
theorem behL_err {m : List Ln} {a x : Ln} (h : behE m a x ≠ 0) : behL m a x = m := by
  unfold behE at h
  unfold behL
  split
  · rename_i ha
    rw [if_pos ha] at h
    exact putL_err h
  · rfl
theorem lastOr_step {m : List Ln} (hs : Sorted m) {l : List UInt8} (h0 : stepE m l = 0) : lastOr (stepM m l) = lnOf l := by
  rw [stepM_last hs h0]; unfold lastOr; simp
/-- How long a string's slot is. -/
def szOf : Value → Nat
  | .string s => s.size
  | _ => 0
theorem szOf_list (l : List UInt8) : szOf (.string ⟨l.toArray⟩) = l.length := mk_size l
/-- What is left to be read: l, from line i on. -/
structure Left (R : List Ln × Nat × Nat) (l : List UInt8) (i : Nat) (m : List Ln) : Prop where
  eq : R = readS m i (splitL 10 l)
  wf : Wf m
  len : l.length + i ≤ 20000
theorem Left.done {R : List Ln × Nat × Nat} {i : Nat} {m : List Ln} (h : Left R [] i m) : R = (m, 0, 0) := by
  rw [h.eq, split_none rfl, readS_last]; simp
theorem Left.cut {R : List Ln × Nat × Nat} {l : List UInt8} {i : Nat} {m : List Ln} (h : Left R l i m) (h1 : has 10 l = false) (h2 : l ≠ []) : R = ([], 1, i) := by
  rw [h.eq, split_none h1, readS_last, if_neg h2]
theorem Left.bad {R : List Ln × Nat × Nat} {l : List UInt8} {i : Nat} {m : List Ln} (h : Left R l i m) (h1 : has 10 l = true) (h2 : stepE m (pre 10 l) ≠ 0) : R = ([], stepE m (pre 10 l), i) := by
  rw [h.eq, split_some h1, readS_step _ _ _ (split_pos 10 _), if_neg h2]
theorem Left.good {R : List Ln × Nat × Nat} {l : List UInt8} {i : Nat} {m : List Ln} (h : Left R l i m) (h1 : has 10 l = true) (h2 : stepE m (pre 10 l) = 0) : Left R (post 10 l) (i + 1) (stepM m (pre 10 l)) ∧ (post 10 l).length < l.length := by
  have hlt := pre_length_lt 10 l h1
  have hpl : (post 10 l).length < l.length := by rw [← drop_pre, List.length_drop]; omega
  refine ⟨⟨?_, h.wf.put _ _ _, by have := h.len; omega⟩, hpl⟩
  rw [h.eq, split_some h1, readS_step _ _ _ (split_pos 10 _), if_pos h2]
end Go.Proofs.YtiegilnjfadhiabDoor
