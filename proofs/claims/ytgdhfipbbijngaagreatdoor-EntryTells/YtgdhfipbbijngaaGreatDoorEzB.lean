/-
  What place.Read answers, over every world that holds the sentinels ErrText, ErrName and ErrBound as the program lays them; condition: the text is no longer than a string may be. An entry in memory: its fourteen cells, a block of its own, what stays of it; the language's comparison of two entries. What placesOf answers of an entry of each sort: pointers to the places that it has; nothing old is turned. What the reference's hasFrom, hasTo and IsKind answer of a word, over whatever world. What a walk of the reference's ReadEntry holds: the result's block, the entry's block, the words' row; the worlds of its stores. What the reference's GoodsError answers, over whatever world. What goods.Check and the reference's GoodsError answer, over every world that holds the sentinels ErrName and ErrBound as the program lays them. What checkPieces answers of an entry of each sort, over every world that holds the sentinels as the program lays them; nothing old is turned. What the reference's PlaceError answers.
-/
import Derived.Test.YtgdhfipbbijngaaGreatDoorBzB
import Derived.Test.YtgdhfipbbijngaaGreatDoorEzM
import Derived.Laws.IdiomRangeMap
import Derived.Lib.Builder
import Derived.Lib.SmallJoins
import Derived.Laws.StructEq
import Derived.RegionTactic
namespace Go.Proofs.YtgdhfipbbijngaaGreatDoor
open Go.RowKit Go.Lib Go.Sort

/-- The world behind a result's cells are made. -/
abbrev made (w : World) : World := w.alloc (.cells #[.string ⟨#[]⟩, .int .i64 0, .int .i64 0] 27)
set_option maxRecDepth 100000 in
set_option maxHeartbeats 1000000 in
theorem read_no (x : ByteArray) (w : World) (s : Nat → Addr) (hz : x.size ≤ maxLen) (hs : Three w s) (h : plNum x.data.toList = false) :
    Calls Tryz.prog 50 #[.string x] w fun e w' => e = .returned (.tuple #[agP zeroP, err (s 0)]) ∧ Below w.heap.size w w' := by
  have hB : Below w.heap.size w (made w) := (Below.refl _ w).alloc (Nat.le_refl _) _
  have hp := parts_p x (made w) hz
  rw [h] at hp
  clear h
  generalize plOf x.data.toList = pp at hp
  obtain ⟨a, r, b⟩ := pp
  unfold agP zeroP made at *
  simp only at *
  have HP : Hid (Calls Tryz.prog 65 _ _ _) := hp
  have HB : Hid (Below _ _ _) := hB
  have hgl := cell_lt hs.text
  clear hp hB hz
  go_enter Tryz.func50, Tryz.ntmps50
  go_wp2_with (go_at_call 65; refine HP.out.mono ?_; rintro e w1 ⟨rfl, hb⟩; obtain ⟨hc, hf⟩ := bcell hb; have hbw : Below w.heap.size w w1 := HB.out.trans (hb.mono HB.out.size); have hz1 : w.heap.size < w1.heap.size := (by have := hb.size; simp at this; omega))
  have hT : ∀ o, (w1.alloc o).cell? ⟨1, 0, none⟩ = some (err (s 0)) := fun o => (hs.below (hbw.alloc hbw.size o)).text
  have hK : ∀ o a b c, ((((w1.setCell ⟨w.heap.size, 0, none⟩ a).setCell ⟨w.heap.size, 1, none⟩ b).setCell ⟨w.heap.size, 2, none⟩ c).alloc o).drew.cell? ⟨1, 0, none⟩ = some (err (s 0)) := fun o a b c => (hs.below ((below_set3 hbw (Nat.le_refl _) a b c).alloc (below_set3 hbw (Nat.le_refl _) a b c).size o)).text
  go_region_held3 (fun w' => w'.cell? ⟨1, 0, none⟩ = some (err (s 0))) (first | go_keep | exact hK _ _ _ _) (fail)
  go_wp2
  exact bodyPost_ret (v := .tuple #[.agg #[.string ⟨#[]⟩, .int .i64 0, .int .i64 0], err (s 0)]) (by simp [results, Tryz.results50, go_sem, hc, hz1]) rfl ⟨rfl, ((below_set3 hbw (Nat.le_refl _) _ _ _).alloc (below_set3 hbw (Nat.le_refl _) _ _ _).size _).drew⟩
set_option maxRecDepth 100000 in
set_option maxHeartbeats 1000000 in
theorem read_yes (x : ByteArray) (w : World) (s : Nat → Addr) (hz : x.size ≤ maxLen) (hs : Three w s) (h : plNum x.data.toList = true) (h0 : placeErr (plOf x.data.toList) = 0) :
    Calls Tryz.prog 50 #[.string x] w fun e w' => e = .returned (.tuple #[agP (plOf x.data.toList), .nilIface]) ∧ Below w.heap.size w w' := by
  have hB : Below w.heap.size w (made w) := (Below.refl _ w).alloc (Nat.le_refl _) _
  have hp := parts_p x (made w) hz
  have hzA : (plOf x.data.toList).1.size ≤ maxLen := by
    show (⟨(cutA 45 x.data.toList).toArray⟩ : ByteArray).size ≤ maxLen
    have := cutA_le 45 x.data.toList
    rw [mk_size]; rw [size_len] at this; omega
  have hch := fun w1 (hb : Below w.heap.size w w1) => pcheck_any (plOf x.data.toList) w1 s hzA (hs.two.below hb)
  rw [h0, errP_zero] at hch
  rw [h] at hp
  clear h h0 hzA
  generalize plOf x.data.toList = pp at *
  obtain ⟨a, r, b⟩ := pp
  unfold agP made at *
  simp only at *
  have HP : Hid (Calls Tryz.prog 65 _ _ _) := hp
  have HB : Hid (Below _ _ _) := hB
  clear hp hB hz hs
  go_enter Tryz.func50, Tryz.ntmps50
  go_wp2_with (first
    | (go_at_call 65; refine HP.out.mono ?_; rintro e w1 ⟨rfl, hb⟩; obtain ⟨hc, hf⟩ := bcell hb; have hbw : Below w.heap.size w w1 := HB.out.trans (hb.mono HB.out.size); have hz1 : w.heap.size < w1.heap.size := (by have := hb.size; simp at this; omega))
    | (go_at_call 59; refine (hch _ (hbw.alloc hbw.size _)).mono ?_; rintro e w2 ⟨rfl, hb2⟩; obtain ⟨hc2, hf2⟩ := bcell hb2; have hbw2 : Below w.heap.size w w2 := (hbw.alloc hbw.size _).trans (hb2.mono (by simp; omega)); have hz2 : w1.heap.size < w2.heap.size := (by have := hb2.size; simp at this; omega)))
  obtain ⟨r0, r1, r2⟩ := (((BoxAt.new w zeroP 27 _ rfl).below hb).below ((Below.refl _ _).alloc (Nat.le_refl _) _)).below hb2
  exact bodyPost_ret (v := .tuple #[.agg #[.string a, .int .i64 r, .int .i64 b], .nilIface]) (by simp [results, Tryz.results50, go_sem, r0, r1, r2]) rfl ⟨rfl, below_set3 hbw2 (Nat.le_refl _) _ _ _⟩
set_option maxRecDepth 100000 in
set_option maxHeartbeats 1000000 in
theorem read_err (x : ByteArray) (w : World) (s : Nat → Addr) (hz : x.size ≤ maxLen) (hs : Three w s) (h : plNum x.data.toList = true) (h0 : placeErr (plOf x.data.toList) ≠ 0) :
    Calls Tryz.prog 50 #[.string x] w fun e w' => e = .returned (.tuple #[agP zeroP, errP s (placeErr (plOf x.data.toList))]) ∧ Below w.heap.size w w' := by
  have hB : Below w.heap.size w (made w) := (Below.refl _ w).alloc (Nat.le_refl _) _
  have hp := parts_p x (made w) hz
  have hzA : (plOf x.data.toList).1.size ≤ maxLen := by
    show (⟨(cutA 45 x.data.toList).toArray⟩ : ByteArray).size ≤ maxLen
    have := cutA_le 45 x.data.toList
    rw [mk_size]; rw [size_len] at this; omega
  have hch := fun w1 (hb : Below w.heap.size w w1) => pcheck_any (plOf x.data.toList) w1 s hzA (hs.two.below hb)
  rw [errP_pos s h0] at hch ⊢
  rw [h] at hp
  clear h h0 hzA
  generalize s (placeErr (plOf x.data.toList) - 1) = ad at *
  generalize plOf x.data.toList = pp at *
  obtain ⟨a, r, b⟩ := pp
  unfold agP made zeroP at *
  simp only at *
  have HP : Hid (Calls Tryz.prog 65 _ _ _) := hp
  have HB : Hid (Below _ _ _) := hB
  clear hp hB hz hs
  go_enter Tryz.func50, Tryz.ntmps50
  go_wp2_with (first
    | (go_at_call 65; refine HP.out.mono ?_; rintro e w1 ⟨rfl, hb⟩; obtain ⟨hc, hf⟩ := bcell hb; have hbw : Below w.heap.size w w1 := HB.out.trans (hb.mono HB.out.size); have hz1 : w.heap.size < w1.heap.size := (by have := hb.size; simp at this; omega))
    | (go_at_call 59; refine (hch _ (hbw.alloc hbw.size _)).mono ?_; rintro e w2 ⟨rfl, hb2⟩; obtain ⟨hc2, hf2⟩ := bcell hb2; have hbw2 : Below w.heap.size w w2 := (hbw.alloc hbw.size _).trans (hb2.mono (by simp; omega)); have hz2 : w1.heap.size < w2.heap.size := (by have := hb2.size; simp at this; omega)))
  obtain ⟨r0, r1, r2⟩ := (((BoxAt.new w zeroP 27 _ rfl).below hb).below ((Below.refl _ _).alloc (Nat.le_refl _) _)).below hb2
  exact bodyPost_ret (v := .tuple #[.agg #[.string ⟨#[]⟩, .int .i64 0, .int .i64 0], err ad]) (by simp [results, Tryz.results50, go_sem, r0, r1, r2]) rfl ⟨rfl, below_set3 hbw2 (Nat.le_refl _) _ _ _⟩
/-- place.Read. -/
theorem pread_any (x : ByteArray) (w : World) (s : Nat → Addr) (hz : x.size ≤ maxLen) (hs : Three w s) :
    Calls Tryz.prog 50 #[.string x] w fun e w' => e = .returned (.tuple #[agP (readP x.data.toList).1, errP s (readP x.data.toList).2]) ∧ Below w.heap.size w w' := by
  cases h : plNum x.data.toList with
  | false =>
    have e : readP x.data.toList = (zeroP, 1) := by unfold readP; rw [h]; rfl
    rw [e]
    exact read_no x w s hz hs h
  | true =>
    by_cases h0 : placeErr (plOf x.data.toList) = 0
    · have e : readP x.data.toList = (plOf x.data.toList, 0) := by unfold readP; rw [if_pos h, if_pos h0]
      rw [e]
      exact read_yes x w s hz hs h h0
    · have e : readP x.data.toList = (zeroP, placeErr (plOf x.data.toList)) := by unfold readP; rw [if_pos h, if_neg h0]
      rw [e]
      exact read_err x w s hz hs h h0
theorem readP_code (l : List UInt8) : (readP l).2 ≤ 12 := by
  unfold readP; split
  · split
    · exact Nat.zero_le _
    · exact placeErr_le _
  · decide
end Go.Proofs.YtgdhfipbbijngaaGreatDoor
namespace Go.Proofs.YtgdhfipbbijngaaGreatDoor
open Go.RowKit Go.Lib Go.Sort

/-- An entry as a value. -/
abbrev agE (e : En) : Value := .agg #[.string e.1, .string e.2.1.1, .int .i64 e.2.1.2, .string e.2.2.1.1, .string e.2.2.1.2.1, .int .i64 e.2.2.1.2.2.1, .int .i64 e.2.2.1.2.2.2, .string e.2.2.2.1.1, .int .i64 e.2.2.2.1.2.1, .int .i64 e.2.2.2.1.2.2, .string e.2.2.2.2.1.1, .int .i64 e.2.2.2.2.1.2.1, .int .i64 e.2.2.2.2.1.2.2, .int .i64 e.2.2.2.2.2]
/-- An entry's cells. -/
abbrev celE (e : En) : Obj := .cells #[.string e.1, .string e.2.1.1, .int .i64 e.2.1.2, .string e.2.2.1.1, .string e.2.2.1.2.1, .int .i64 e.2.2.1.2.2.1, .int .i64 e.2.2.1.2.2.2, .string e.2.2.2.1.1, .int .i64 e.2.2.2.1.2.1, .int .i64 e.2.2.2.1.2.2, .string e.2.2.2.2.1.1, .int .i64 e.2.2.2.2.1.2.1, .int .i64 e.2.2.2.2.1.2.2, .int .i64 e.2.2.2.2.2] 29
/-- An entry lies in a block. -/
structure EntAt (w : World) (q : Nat) (e : En) : Prop where
  c0 : w.cell? ⟨q, 0, none⟩ = some (.string e.1)
  c1 : w.cell? ⟨q, 1, none⟩ = some (.string e.2.1.1)
  c2 : w.cell? ⟨q, 2, none⟩ = some (.int .i64 e.2.1.2)
  c3 : w.cell? ⟨q, 3, none⟩ = some (.string e.2.2.1.1)
  c4 : w.cell? ⟨q, 4, none⟩ = some (.string e.2.2.1.2.1)
  c5 : w.cell? ⟨q, 5, none⟩ = some (.int .i64 e.2.2.1.2.2.1)
  c6 : w.cell? ⟨q, 6, none⟩ = some (.int .i64 e.2.2.1.2.2.2)
  c7 : w.cell? ⟨q, 7, none⟩ = some (.string e.2.2.2.1.1)
  c8 : w.cell? ⟨q, 8, none⟩ = some (.int .i64 e.2.2.2.1.2.1)
  c9 : w.cell? ⟨q, 9, none⟩ = some (.int .i64 e.2.2.2.1.2.2)
  c10 : w.cell? ⟨q, 10, none⟩ = some (.string e.2.2.2.2.1.1)
  c11 : w.cell? ⟨q, 11, none⟩ = some (.int .i64 e.2.2.2.2.1.2.1)
  c12 : w.cell? ⟨q, 12, none⟩ = some (.int .i64 e.2.2.2.2.1.2.2)
  c13 : w.cell? ⟨q, 13, none⟩ = some (.int .i64 e.2.2.2.2.2)
theorem EntAt.of_block {w w' : World} {q : Nat} {e : En} (h : EntAt w q e) (hb : w'.heap[q]? = w.heap[q]?) : EntAt w' q e where
  c0 := (World.cell?_of_block (a := ⟨q, 0, none⟩) hb).trans h.c0
  c1 := (World.cell?_of_block (a := ⟨q, 1, none⟩) hb).trans h.c1
  c2 := (World.cell?_of_block (a := ⟨q, 2, none⟩) hb).trans h.c2
  c3 := (World.cell?_of_block (a := ⟨q, 3, none⟩) hb).trans h.c3
  c4 := (World.cell?_of_block (a := ⟨q, 4, none⟩) hb).trans h.c4
  c5 := (World.cell?_of_block (a := ⟨q, 5, none⟩) hb).trans h.c5
  c6 := (World.cell?_of_block (a := ⟨q, 6, none⟩) hb).trans h.c6
  c7 := (World.cell?_of_block (a := ⟨q, 7, none⟩) hb).trans h.c7
  c8 := (World.cell?_of_block (a := ⟨q, 8, none⟩) hb).trans h.c8
  c9 := (World.cell?_of_block (a := ⟨q, 9, none⟩) hb).trans h.c9
  c10 := (World.cell?_of_block (a := ⟨q, 10, none⟩) hb).trans h.c10
  c11 := (World.cell?_of_block (a := ⟨q, 11, none⟩) hb).trans h.c11
  c12 := (World.cell?_of_block (a := ⟨q, 12, none⟩) hb).trans h.c12
  c13 := (World.cell?_of_block (a := ⟨q, 13, none⟩) hb).trans h.c13
theorem EntAt.lt {w : World} {q : Nat} {e : En} (h : EntAt w q e) : q < w.heap.size := cell_lt h.c0
theorem EntAt.below {w w' : World} {q : Nat} {e : En} (h : EntAt w q e) (hb : Below w.heap.size w w') : EntAt w' q e := h.of_block (hb.block q h.lt)
/-- An entry is all of a block. -/
def BlkE (w : World) (q : Nat) (e : En) : Prop := w.heap[q]? = some (.cells #[.string e.1, .string e.2.1.1, .int .i64 e.2.1.2, .string e.2.2.1.1, .string e.2.2.1.2.1, .int .i64 e.2.2.1.2.2.1, .int .i64 e.2.2.1.2.2.2, .string e.2.2.2.1.1, .int .i64 e.2.2.2.1.2.1, .int .i64 e.2.2.2.1.2.2, .string e.2.2.2.2.1.1, .int .i64 e.2.2.2.2.1.2.1, .int .i64 e.2.2.2.2.1.2.2, .int .i64 e.2.2.2.2.2] 29 (0, 0))
theorem BlkE.at {w : World} {q : Nat} {e : En} (h : BlkE w q e) : EntAt w q e where
  c0 := by rw [cell_of_heap h]; rfl
  c1 := by rw [cell_of_heap h]; rfl
  c2 := by rw [cell_of_heap h]; rfl
  c3 := by rw [cell_of_heap h]; rfl
  c4 := by rw [cell_of_heap h]; rfl
  c5 := by rw [cell_of_heap h]; rfl
  c6 := by rw [cell_of_heap h]; rfl
  c7 := by rw [cell_of_heap h]; rfl
  c8 := by rw [cell_of_heap h]; rfl
  c9 := by rw [cell_of_heap h]; rfl
  c10 := by rw [cell_of_heap h]; rfl
  c11 := by rw [cell_of_heap h]; rfl
  c12 := by rw [cell_of_heap h]; rfl
  c13 := by rw [cell_of_heap h]; rfl
theorem BlkE.frozen {w : World} {q : Nat} {e : En} (h : BlkE w q e) (o : Nat) : w.frozen? ⟨q, o, none⟩ = false := frozen_of_heap h o
theorem BlkE.lt {w : World} {q : Nat} {e : En} (h : BlkE w q e) : q < w.heap.size := h.at.lt
theorem BlkE.below {w w' : World} {q : Nat} {e : En} (h : BlkE w q e) (hb : Below w.heap.size w w') : BlkE w' q e := (hb.block q h.lt).trans h
theorem BlkE.new (w : World) (e : En) : BlkE (w.alloc (celE e)) w.heap.size e := heap_alloc_new w _
/-- Fourteen cells are stored. -/
abbrev setE (w : World) (q : Nat) (e : En) : World := (((((((((((((w.setCell ⟨q, 0, none⟩ (.string e.1)).setCell ⟨q, 1, none⟩ (.string e.2.1.1)).setCell ⟨q, 2, none⟩ (.int .i64 e.2.1.2)).setCell ⟨q, 3, none⟩ (.string e.2.2.1.1)).setCell ⟨q, 4, none⟩ (.string e.2.2.1.2.1)).setCell ⟨q, 5, none⟩ (.int .i64 e.2.2.1.2.2.1)).setCell ⟨q, 6, none⟩ (.int .i64 e.2.2.1.2.2.2)).setCell ⟨q, 7, none⟩ (.string e.2.2.2.1.1)).setCell ⟨q, 8, none⟩ (.int .i64 e.2.2.2.1.2.1)).setCell ⟨q, 9, none⟩ (.int .i64 e.2.2.2.1.2.2)).setCell ⟨q, 10, none⟩ (.string e.2.2.2.2.1.1)).setCell ⟨q, 11, none⟩ (.int .i64 e.2.2.2.2.1.2.1)).setCell ⟨q, 12, none⟩ (.int .i64 e.2.2.2.2.1.2.2)).setCell ⟨q, 13, none⟩ (.int .i64 e.2.2.2.2.2)
theorem set_cell {w : World} {q : Nat} {cs cs' : Array Value} {T : TypeId} (h : w.heap[q]? = some (.cells cs T (0, 0))) (i : Nat) (v : Value) (e : cs.setIfInBounds i v = cs') : (w.setCell ⟨q, i, none⟩ v).heap[q]? = some (.cells cs' T (0, 0)) := by
  rw [← e]; exact Joins.block_setCell h v
theorem BlkE.setE {w : World} {q : Nat} {a : En} (h : BlkE w q a) (e : En) : BlkE (setE w q e) q e := by
  have h1 := set_cell (cs' := #[.string e.1, .string a.2.1.1, .int .i64 a.2.1.2, .string a.2.2.1.1, .string a.2.2.1.2.1, .int .i64 a.2.2.1.2.2.1, .int .i64 a.2.2.1.2.2.2, .string a.2.2.2.1.1, .int .i64 a.2.2.2.1.2.1, .int .i64 a.2.2.2.1.2.2, .string a.2.2.2.2.1.1, .int .i64 a.2.2.2.2.1.2.1, .int .i64 a.2.2.2.2.1.2.2, .int .i64 a.2.2.2.2.2]) h 0 (.string e.1) rfl
  have h2 := set_cell (cs' := #[.string e.1, .string e.2.1.1, .int .i64 a.2.1.2, .string a.2.2.1.1, .string a.2.2.1.2.1, .int .i64 a.2.2.1.2.2.1, .int .i64 a.2.2.1.2.2.2, .string a.2.2.2.1.1, .int .i64 a.2.2.2.1.2.1, .int .i64 a.2.2.2.1.2.2, .string a.2.2.2.2.1.1, .int .i64 a.2.2.2.2.1.2.1, .int .i64 a.2.2.2.2.1.2.2, .int .i64 a.2.2.2.2.2]) h1 1 (.string e.2.1.1) rfl
  have h3 := set_cell (cs' := #[.string e.1, .string e.2.1.1, .int .i64 e.2.1.2, .string a.2.2.1.1, .string a.2.2.1.2.1, .int .i64 a.2.2.1.2.2.1, .int .i64 a.2.2.1.2.2.2, .string a.2.2.2.1.1, .int .i64 a.2.2.2.1.2.1, .int .i64 a.2.2.2.1.2.2, .string a.2.2.2.2.1.1, .int .i64 a.2.2.2.2.1.2.1, .int .i64 a.2.2.2.2.1.2.2, .int .i64 a.2.2.2.2.2]) h2 2 (.int .i64 e.2.1.2) rfl
  have h4 := set_cell (cs' := #[.string e.1, .string e.2.1.1, .int .i64 e.2.1.2, .string e.2.2.1.1, .string a.2.2.1.2.1, .int .i64 a.2.2.1.2.2.1, .int .i64 a.2.2.1.2.2.2, .string a.2.2.2.1.1, .int .i64 a.2.2.2.1.2.1, .int .i64 a.2.2.2.1.2.2, .string a.2.2.2.2.1.1, .int .i64 a.2.2.2.2.1.2.1, .int .i64 a.2.2.2.2.1.2.2, .int .i64 a.2.2.2.2.2]) h3 3 (.string e.2.2.1.1) rfl
  have h5 := set_cell (cs' := #[.string e.1, .string e.2.1.1, .int .i64 e.2.1.2, .string e.2.2.1.1, .string e.2.2.1.2.1, .int .i64 a.2.2.1.2.2.1, .int .i64 a.2.2.1.2.2.2, .string a.2.2.2.1.1, .int .i64 a.2.2.2.1.2.1, .int .i64 a.2.2.2.1.2.2, .string a.2.2.2.2.1.1, .int .i64 a.2.2.2.2.1.2.1, .int .i64 a.2.2.2.2.1.2.2, .int .i64 a.2.2.2.2.2]) h4 4 (.string e.2.2.1.2.1) rfl
  have h6 := set_cell (cs' := #[.string e.1, .string e.2.1.1, .int .i64 e.2.1.2, .string e.2.2.1.1, .string e.2.2.1.2.1, .int .i64 e.2.2.1.2.2.1, .int .i64 a.2.2.1.2.2.2, .string a.2.2.2.1.1, .int .i64 a.2.2.2.1.2.1, .int .i64 a.2.2.2.1.2.2, .string a.2.2.2.2.1.1, .int .i64 a.2.2.2.2.1.2.1, .int .i64 a.2.2.2.2.1.2.2, .int .i64 a.2.2.2.2.2]) h5 5 (.int .i64 e.2.2.1.2.2.1) rfl
  have h7 := set_cell (cs' := #[.string e.1, .string e.2.1.1, .int .i64 e.2.1.2, .string e.2.2.1.1, .string e.2.2.1.2.1, .int .i64 e.2.2.1.2.2.1, .int .i64 e.2.2.1.2.2.2, .string a.2.2.2.1.1, .int .i64 a.2.2.2.1.2.1, .int .i64 a.2.2.2.1.2.2, .string a.2.2.2.2.1.1, .int .i64 a.2.2.2.2.1.2.1, .int .i64 a.2.2.2.2.1.2.2, .int .i64 a.2.2.2.2.2]) h6 6 (.int .i64 e.2.2.1.2.2.2) rfl
  have h8 := set_cell (cs' := #[.string e.1, .string e.2.1.1, .int .i64 e.2.1.2, .string e.2.2.1.1, .string e.2.2.1.2.1, .int .i64 e.2.2.1.2.2.1, .int .i64 e.2.2.1.2.2.2, .string e.2.2.2.1.1, .int .i64 a.2.2.2.1.2.1, .int .i64 a.2.2.2.1.2.2, .string a.2.2.2.2.1.1, .int .i64 a.2.2.2.2.1.2.1, .int .i64 a.2.2.2.2.1.2.2, .int .i64 a.2.2.2.2.2]) h7 7 (.string e.2.2.2.1.1) rfl
  have h9 := set_cell (cs' := #[.string e.1, .string e.2.1.1, .int .i64 e.2.1.2, .string e.2.2.1.1, .string e.2.2.1.2.1, .int .i64 e.2.2.1.2.2.1, .int .i64 e.2.2.1.2.2.2, .string e.2.2.2.1.1, .int .i64 e.2.2.2.1.2.1, .int .i64 a.2.2.2.1.2.2, .string a.2.2.2.2.1.1, .int .i64 a.2.2.2.2.1.2.1, .int .i64 a.2.2.2.2.1.2.2, .int .i64 a.2.2.2.2.2]) h8 8 (.int .i64 e.2.2.2.1.2.1) rfl
  have h10 := set_cell (cs' := #[.string e.1, .string e.2.1.1, .int .i64 e.2.1.2, .string e.2.2.1.1, .string e.2.2.1.2.1, .int .i64 e.2.2.1.2.2.1, .int .i64 e.2.2.1.2.2.2, .string e.2.2.2.1.1, .int .i64 e.2.2.2.1.2.1, .int .i64 e.2.2.2.1.2.2, .string a.2.2.2.2.1.1, .int .i64 a.2.2.2.2.1.2.1, .int .i64 a.2.2.2.2.1.2.2, .int .i64 a.2.2.2.2.2]) h9 9 (.int .i64 e.2.2.2.1.2.2) rfl
  have h11 := set_cell (cs' := #[.string e.1, .string e.2.1.1, .int .i64 e.2.1.2, .string e.2.2.1.1, .string e.2.2.1.2.1, .int .i64 e.2.2.1.2.2.1, .int .i64 e.2.2.1.2.2.2, .string e.2.2.2.1.1, .int .i64 e.2.2.2.1.2.1, .int .i64 e.2.2.2.1.2.2, .string e.2.2.2.2.1.1, .int .i64 a.2.2.2.2.1.2.1, .int .i64 a.2.2.2.2.1.2.2, .int .i64 a.2.2.2.2.2]) h10 10 (.string e.2.2.2.2.1.1) rfl
  have h12 := set_cell (cs' := #[.string e.1, .string e.2.1.1, .int .i64 e.2.1.2, .string e.2.2.1.1, .string e.2.2.1.2.1, .int .i64 e.2.2.1.2.2.1, .int .i64 e.2.2.1.2.2.2, .string e.2.2.2.1.1, .int .i64 e.2.2.2.1.2.1, .int .i64 e.2.2.2.1.2.2, .string e.2.2.2.2.1.1, .int .i64 e.2.2.2.2.1.2.1, .int .i64 a.2.2.2.2.1.2.2, .int .i64 a.2.2.2.2.2]) h11 11 (.int .i64 e.2.2.2.2.1.2.1) rfl
  have h13 := set_cell (cs' := #[.string e.1, .string e.2.1.1, .int .i64 e.2.1.2, .string e.2.2.1.1, .string e.2.2.1.2.1, .int .i64 e.2.2.1.2.2.1, .int .i64 e.2.2.1.2.2.2, .string e.2.2.2.1.1, .int .i64 e.2.2.2.1.2.1, .int .i64 e.2.2.2.1.2.2, .string e.2.2.2.2.1.1, .int .i64 e.2.2.2.2.1.2.1, .int .i64 e.2.2.2.2.1.2.2, .int .i64 a.2.2.2.2.2]) h12 12 (.int .i64 e.2.2.2.2.1.2.2) rfl
  have h14 := set_cell (cs' := #[.string e.1, .string e.2.1.1, .int .i64 e.2.1.2, .string e.2.2.1.1, .string e.2.2.1.2.1, .int .i64 e.2.2.1.2.2.1, .int .i64 e.2.2.1.2.2.2, .string e.2.2.2.1.1, .int .i64 e.2.2.2.1.2.1, .int .i64 e.2.2.2.1.2.2, .string e.2.2.2.2.1.1, .int .i64 e.2.2.2.2.1.2.1, .int .i64 e.2.2.2.2.1.2.2, .int .i64 e.2.2.2.2.2]) h13 13 (.int .i64 e.2.2.2.2.2) rfl
  exact h14
theorem below_setE {B q : Nat} {w W : World} (hb : Below B w W) (hq : B ≤ q) (e : En) : Below B w (setE W q e) :=
  ((((((((((((((hb.setCell (p := ⟨q, 0, none⟩) hq _).setCell (p := ⟨q, 1, none⟩) hq _).setCell (p := ⟨q, 2, none⟩) hq _).setCell (p := ⟨q, 3, none⟩) hq _).setCell (p := ⟨q, 4, none⟩) hq _).setCell (p := ⟨q, 5, none⟩) hq _).setCell (p := ⟨q, 6, none⟩) hq _).setCell (p := ⟨q, 7, none⟩) hq _).setCell (p := ⟨q, 8, none⟩) hq _).setCell (p := ⟨q, 9, none⟩) hq _).setCell (p := ⟨q, 10, none⟩) hq _).setCell (p := ⟨q, 11, none⟩) hq _).setCell (p := ⟨q, 12, none⟩) hq _).setCell (p := ⟨q, 13, none⟩) hq _)
theorem Tryz.guardE : Tryz.prog.eqGuardType Tryz.prog.depth 29 = false := by kernel_rfl
theorem eqPl9 (x y : Pl) (w : World) : (Op.equalIn 9999 27 (.agg #[.string x.1, .int .i64 x.2.1, .int .i64 x.2.2]) (.agg #[.string y.1, .int .i64 y.2.1, .int .i64 y.2.2])).run Tryz.prog w = .ok (decide (x = y)) w := by
  obtain ⟨a, r, b⟩ := x
  obtain ⟨a', r', b'⟩ := y
  have u3 := Tryz.underlying3
  have a3 := Tryz.isAgg3
  have z3 := Tryz.sizeOf3
  have u9 := Tryz.underlying9
  have a9 := Tryz.isAgg9
  have z9 := Tryz.sizeOf9
  have hS : Tryz.prog.underlying 27 = some (.struct (Tryz.prog.fieldsOf 27)) := by kernel_rfl
  have hp : Tryz.prog.stoodInHeld 27 = false := by kernel_rfl
  rw [show (9999 : Nat) = 9998 + 1 from rfl, run_equalIn_agg w 9998 27 _ _ hS hp]
  simp only [Program.fieldsOf, Tryz.underlying27]
  have e3 := same_eq a a'
  go_simp
  by_cases h1 : a = a' <;> by_cases h2 : r = r' <;> by_cases h3 : b = b' <;> simp [h1, h2, h3]
theorem eqG9 (x y : Gd) (w : World) : (Op.equalIn 9999 23 (.agg #[.string x.1, .int .i64 x.2]) (.agg #[.string y.1, .int .i64 y.2])).run Tryz.prog w = .ok (decide (x = y)) w := by
  obtain ⟨a, r⟩ := x
  obtain ⟨a', r'⟩ := y
  have u3 := Tryz.underlying3
  have a3 := Tryz.isAgg3
  have z3 := Tryz.sizeOf3
  have u9 := Tryz.underlying9
  have a9 := Tryz.isAgg9
  have z9 := Tryz.sizeOf9
  have hS : Tryz.prog.underlying 23 = some (.struct (Tryz.prog.fieldsOf 23)) := by kernel_rfl
  have hp : Tryz.prog.stoodInHeld 23 = false := by kernel_rfl
  rw [show (9999 : Nat) = 9998 + 1 from rfl, run_equalIn_agg w 9998 23 _ _ hS hp]
  simp only [Program.fieldsOf, Tryz.underlying23]
  have e3 := same_eq a a'
  go_simp
  by_cases h1 : a = a' <;> by_cases h2 : r = r' <;> simp [h1, h2]
theorem eqL9 (x y : Lo) (w : World) : (Op.equalIn 9999 25 (.agg #[.string x.1, .string x.2.1, .int .i64 x.2.2.1, .int .i64 x.2.2.2]) (.agg #[.string y.1, .string y.2.1, .int .i64 y.2.2.1, .int .i64 y.2.2.2])).run Tryz.prog w = .ok (decide (x = y)) w := by
  obtain ⟨a, r, b, c⟩ := x
  obtain ⟨a', r', b', c'⟩ := y
  have u3 := Tryz.underlying3
  have a3 := Tryz.isAgg3
  have z3 := Tryz.sizeOf3
  have u9 := Tryz.underlying9
  have a9 := Tryz.isAgg9
  have z9 := Tryz.sizeOf9
  have hS : Tryz.prog.underlying 25 = some (.struct (Tryz.prog.fieldsOf 25)) := by kernel_rfl
  have hp : Tryz.prog.stoodInHeld 25 = false := by kernel_rfl
  rw [show (9999 : Nat) = 9998 + 1 from rfl, run_equalIn_agg w 9998 25 _ _ hS hp]
  simp only [Program.fieldsOf, Tryz.underlying25]
  have e3 := same_eq a a'
  have e4 := same_eq r r'
  go_simp
  by_cases h1 : a = a' <;> by_cases h2 : r = r' <;> by_cases h3 : b = b' <;> by_cases h4 : c = c' <;> simp [h1, h2, h3, h4]
set_option maxRecDepth 100000 in
set_option maxHeartbeats 4000000 in
/-- Two entries are compared. -/
theorem eqE_run (x y : En) (w : World) : (Op.equalIn 10000 29 (agE x) (agE y)).run Tryz.prog w = .ok (sameE x y) w := by
  have hG := eqG9 x.2.1 y.2.1
  have hL := eqL9 x.2.2.1 y.2.2.1
  have hP := eqPl9 x.2.2.2.1 y.2.2.2.1
  have hQ := eqPl9 x.2.2.2.2.1 y.2.2.2.2.1
  have HE : Hid (sameE x y = (decide (x.1 = y.1) && (decide (x.2.1 = y.2.1) && (decide (x.2.2.1 = y.2.2.1) && (decide (x.2.2.2.1 = y.2.2.2.1) && (decide (x.2.2.2.2.1 = y.2.2.2.2.1) && decide (x.2.2.2.2.2 = y.2.2.2.2.2))))))) := rfl
  have e3 := same_eq x.1 y.1
  generalize sameE x y = D at *
  generalize decide (x.1 = y.1) = D1 at *
  generalize decide (x.2.1 = y.2.1) = D2 at *
  generalize decide (x.2.2.1 = y.2.2.1) = D3 at *
  generalize decide (x.2.2.2.1 = y.2.2.2.1) = D4 at *
  generalize decide (x.2.2.2.2.1 = y.2.2.2.2.1) = D5 at *
  have h6 : (x.2.2.2.2.2 == y.2.2.2.2.2) = decide (x.2.2.2.2.2 = y.2.2.2.2.2) := rfl
  generalize hD6 : decide (x.2.2.2.2.2 = y.2.2.2.2.2) = D6 at *
  clear hD6
  obtain ⟨k, ⟨gc, gp⟩, ⟨li, lc, lu, lk⟩, ⟨fz, fr, fb⟩, ⟨tz, tr, tb⟩, n⟩ := x
  obtain ⟨k', ⟨gc', gp'⟩, ⟨li', lc', lu', lk'⟩, ⟨fz', fr', fb'⟩, ⟨tz', tr', tb'⟩, n'⟩ := y
  unfold agE
  simp only at hG hL hP hQ e3 h6 ⊢
  have u3 := Tryz.underlying3
  have a3 := Tryz.isAgg3
  have z3 := Tryz.sizeOf3
  have u9 := Tryz.underlying9
  have a9 := Tryz.isAgg9
  have z9 := Tryz.sizeOf9
  have a41 := Tryz.isAgg27
  have z41 := Tryz.sizeOf27
  have a55 := Tryz.isAgg23
  have z55 := Tryz.sizeOf23
  have a57 := Tryz.isAgg25
  have z57 := Tryz.sizeOf25
  have hS : Tryz.prog.underlying 29 = some (.struct (Tryz.prog.fieldsOf 29)) := by kernel_rfl
  have hp : Tryz.prog.stoodInHeld 29 = false := by kernel_rfl
  rw [show (10000 : Nat) = 9999 + 1 from rfl, run_equalIn_agg w 9999 29 _ _ hS hp]
  simp only [Program.fieldsOf, Tryz.underlying29]
  rw [HE.out]
  clear HE
  cases D1 <;> cases D2 <;> cases D3 <;> cases D4 <;> cases D5 <;> cases D6 <;> go_simp
end Go.Proofs.YtgdhfipbbijngaaGreatDoor
namespace Go.Proofs.YtgdhfipbbijngaaGreatDoor
open Go.RowKit Go.Lib Go.Sort

/-- One pointer in a row, two of them. -/
def Ptr1 (w : World) (g q o : Nat) : Prop := w.cell? ⟨g, 0, none⟩ = some (.pointer (some ⟨q, o, none⟩))
def Ptr2 (w : World) (g q o o' : Nat) : Prop := w.cell? ⟨g, 0, none⟩ = some (.pointer (some ⟨q, o, none⟩)) ∧ w.cell? ⟨g, 1, none⟩ = some (.pointer (some ⟨q, o', none⟩))
theorem places_to (k : ByteArray) (q : Nat) (w : World) (hk : k = kIn ∨ k = kMore) (h0 : w.cell? ⟨q, 0, none⟩ = some (.string k)) :
    Calls Tryz.prog 43 #[.pointer (some ⟨q, 0, none⟩)] w fun e w' => e = .returned (.tuple #[.slice (some ⟨w.heap.size, 0, none⟩) 1 1, .bool true]) ∧ w' = w.alloc (.cells #[.pointer (some ⟨q, 10, none⟩)] 77) := by
  rcases hk with rfl | rfl
  all_goals
    go_enter Tryz.func43, Tryz.ntmps43
    go_wp2
    go_ret2
    exact ⟨rfl, rfl⟩
theorem places_from (k : ByteArray) (q : Nat) (w : World) (hk : k = kOut ∨ k = kLess) (h0 : w.cell? ⟨q, 0, none⟩ = some (.string k)) :
    Calls Tryz.prog 43 #[.pointer (some ⟨q, 0, none⟩)] w fun e w' => e = .returned (.tuple #[.slice (some ⟨w.heap.size, 0, none⟩) 1 1, .bool true]) ∧ w' = w.alloc (.cells #[.pointer (some ⟨q, 7, none⟩)] 77) := by
  rcases hk with rfl | rfl
  all_goals
    go_enter Tryz.func43, Tryz.ntmps43
    go_wp2
    go_ret2
    exact ⟨rfl, rfl⟩
theorem places_move (q : Nat) (w : World) (h0 : w.cell? ⟨q, 0, none⟩ = some (.string kMove)) :
    Calls Tryz.prog 43 #[.pointer (some ⟨q, 0, none⟩)] w fun e w' => e = .returned (.tuple #[.slice (some ⟨w.heap.size, 0, none⟩) 2 2, .bool true]) ∧ w' = (w.alloc (.cells #[.pointer (some ⟨q, 7, none⟩), .pointer (some ⟨q, 10, none⟩)] 77)).drew := by
  go_enter Tryz.func43, Tryz.ntmps43
  go_wp2
  go_region
  go_wp2
  go_ret2
  exact ⟨rfl, rfl⟩
theorem places_hold (k : ByteArray) (q : Nat) (w : World) (hk : k = kHold ∨ k = kFree) (h0 : w.cell? ⟨q, 0, none⟩ = some (.string k)) :
    Calls Tryz.prog 43 #[.pointer (some ⟨q, 0, none⟩)] w fun e w' => e = .returned (.tuple #[.slice none 0 0, .bool true]) ∧ w' = w := by
  rcases hk with rfl | rfl
  all_goals
    go_enter Tryz.func43, Tryz.ntmps43
    go_wp2
    go_ret2
    exact ⟨rfl, rfl⟩
/-- A word that is another one, as the walk asks for it. -/
theorem other_word {k z : ByteArray} (h : k ≠ z) : (k.toList == z.data.toList) = false := by
  have := same_eq k z
  rw [decide_eq_false h, Lib.toList_data z] at this
  exact this
theorem places_other (k : ByteArray) (q : Nat) (w : World) (hk : NoKind k) (h0 : w.cell? ⟨q, 0, none⟩ = some (.string k)) :
    Calls Tryz.prog 43 #[.pointer (some ⟨q, 0, none⟩)] w fun e w' => e = .returned (.tuple #[.slice none 0 0, .bool false]) ∧ w' = w := by
  have e3 := other_word hk.in_
  have e4 := other_word hk.more
  have e5 := other_word hk.out
  have e6 := other_word hk.less
  have e7 := other_word hk.move
  have e8 := other_word hk.hold
  have e9 := other_word hk.free
  simp only at e3 e4 e5 e6 e7 e8 e9
  clear hk
  go_enter Tryz.func43, Tryz.ntmps43
  go_wp2
  go_ret2
  exact ⟨rfl, rfl⟩
end Go.Proofs.YtgdhfipbbijngaaGreatDoor
namespace Go.Proofs.YtgdhfipbbijngaaGreatDoor
open Go.RowKit Go.Lib Go.Sort

theorem hasFrom_any (k : ByteArray) (w : World) : Calls Tryz.prog 18 #[.string k] w fun e w' => e = .returned (.bool (kFrom (kd k))) ∧ w' = w := by
  rcases kind_cases k with rfl | rfl | (rfl | rfl) | (rfl | rfl) | rfl | (rfl | rfl) | hn
  · go_enter Tryz.func18, Tryz.ntmps18
    go_wp2
    go_ret
    exact ⟨rfl, rfl⟩
  · go_enter Tryz.func18, Tryz.ntmps18
    go_wp2
    go_ret
    exact ⟨rfl, rfl⟩
  · go_enter Tryz.func18, Tryz.ntmps18
    go_wp2
    go_ret
    exact ⟨rfl, rfl⟩
  · go_enter Tryz.func18, Tryz.ntmps18
    go_wp2
    go_ret
    exact ⟨rfl, rfl⟩
  · go_enter Tryz.func18, Tryz.ntmps18
    go_wp2
    go_ret
    exact ⟨rfl, rfl⟩
  · go_enter Tryz.func18, Tryz.ntmps18
    go_wp2
    go_ret
    exact ⟨rfl, rfl⟩
  · go_enter Tryz.func18, Tryz.ntmps18
    go_wp2
    go_ret
    exact ⟨rfl, rfl⟩
  · go_enter Tryz.func18, Tryz.ntmps18
    go_wp2
    go_ret
    exact ⟨rfl, rfl⟩
  · go_enter Tryz.func18, Tryz.ntmps18
    go_wp2
    go_ret
    exact ⟨rfl, rfl⟩
  · have hd := hn.kd
    rw [hd]
    have e1 := other_word hn.in_
    have e2 := other_word hn.more
    have e3 := other_word hn.out
    have e4 := other_word hn.less
    have e5 := other_word hn.move
    simp only at e1 e2 e3 e4 e5
    clear hn hd
    go_enter Tryz.func18, Tryz.ntmps18
    go_wp2
    go_ret
    exact ⟨rfl, rfl⟩
theorem hasTo_any (k : ByteArray) (w : World) : Calls Tryz.prog 19 #[.string k] w fun e w' => e = .returned (.bool (kTo (kd k))) ∧ w' = w := by
  rcases kind_cases k with rfl | rfl | (rfl | rfl) | (rfl | rfl) | rfl | (rfl | rfl) | hn
  · go_enter Tryz.func19, Tryz.ntmps19
    go_wp2
    go_ret
    exact ⟨rfl, rfl⟩
  · go_enter Tryz.func19, Tryz.ntmps19
    go_wp2
    go_ret
    exact ⟨rfl, rfl⟩
  · go_enter Tryz.func19, Tryz.ntmps19
    go_wp2
    go_ret
    exact ⟨rfl, rfl⟩
  · go_enter Tryz.func19, Tryz.ntmps19
    go_wp2
    go_ret
    exact ⟨rfl, rfl⟩
  · go_enter Tryz.func19, Tryz.ntmps19
    go_wp2
    go_ret
    exact ⟨rfl, rfl⟩
  · go_enter Tryz.func19, Tryz.ntmps19
    go_wp2
    go_ret
    exact ⟨rfl, rfl⟩
  · go_enter Tryz.func19, Tryz.ntmps19
    go_wp2
    go_ret
    exact ⟨rfl, rfl⟩
  · go_enter Tryz.func19, Tryz.ntmps19
    go_wp2
    go_ret
    exact ⟨rfl, rfl⟩
  · go_enter Tryz.func19, Tryz.ntmps19
    go_wp2
    go_ret
    exact ⟨rfl, rfl⟩
  · have hd := hn.kd
    rw [hd]
    have e1 := other_word hn.in_
    have e2 := other_word hn.more
    have e3 := other_word hn.out
    have e4 := other_word hn.less
    have e5 := other_word hn.move
    simp only at e1 e2 e3 e4 e5
    clear hn hd
    go_enter Tryz.func19, Tryz.ntmps19
    go_wp2
    go_ret
    exact ⟨rfl, rfl⟩
theorem isKind_any (k : ByteArray) (w : World) : Calls Tryz.prog 15 #[.string k] w fun e w' => e = .returned (.bool (isKd k)) ∧ w' = w := by
  have hF := fun w => hasFrom_any k w
  have hT := fun w => hasTo_any k w
  rcases kind_cases k with rfl | rfl | (rfl | rfl) | (rfl | rfl) | rfl | (rfl | rfl) | hn
  · have a1 : kFrom (kd kGoods) = false := by decide
    have a2 : kTo (kd kGoods) = false := by decide
    have a3 : isKd kGoods = true := by decide
    rw [a1] at hF
    rw [a2] at hT
    rw [a3]
    clear a1 a2 a3
    go_enter Tryz.func15, Tryz.ntmps15
    go_wp2_with (first | (go_at_call 18; refine (hF _).mono ?_; rintro e w1 ⟨rfl, rfl⟩) | (go_at_call 19; refine (hT _).mono ?_; rintro e w2 ⟨rfl, rfl⟩))
    go_ret
    exact ⟨rfl, rfl⟩
  · have a1 : kFrom (kd kLot) = false := by decide
    have a2 : kTo (kd kLot) = false := by decide
    have a3 : isKd kLot = true := by decide
    rw [a1] at hF
    rw [a2] at hT
    rw [a3]
    clear a1 a2 a3
    go_enter Tryz.func15, Tryz.ntmps15
    go_wp2_with (first | (go_at_call 18; refine (hF _).mono ?_; rintro e w1 ⟨rfl, rfl⟩) | (go_at_call 19; refine (hT _).mono ?_; rintro e w2 ⟨rfl, rfl⟩))
    go_ret
    exact ⟨rfl, rfl⟩
  · have a1 : kFrom (kd kIn) = false := by decide
    have a2 : kTo (kd kIn) = true := by decide
    have a3 : isKd kIn = true := by decide
    rw [a1] at hF
    rw [a2] at hT
    rw [a3]
    clear a1 a2 a3
    go_enter Tryz.func15, Tryz.ntmps15
    go_wp2_with (first | (go_at_call 18; refine (hF _).mono ?_; rintro e w1 ⟨rfl, rfl⟩) | (go_at_call 19; refine (hT _).mono ?_; rintro e w2 ⟨rfl, rfl⟩))
    go_ret
    exact ⟨rfl, rfl⟩
  · have a1 : kFrom (kd kMore) = false := by decide
    have a2 : kTo (kd kMore) = true := by decide
    have a3 : isKd kMore = true := by decide
    rw [a1] at hF
    rw [a2] at hT
    rw [a3]
    clear a1 a2 a3
    go_enter Tryz.func15, Tryz.ntmps15
    go_wp2_with (first | (go_at_call 18; refine (hF _).mono ?_; rintro e w1 ⟨rfl, rfl⟩) | (go_at_call 19; refine (hT _).mono ?_; rintro e w2 ⟨rfl, rfl⟩))
    go_ret
    exact ⟨rfl, rfl⟩
  · have a1 : kFrom (kd kOut) = true := by decide
    have a2 : kTo (kd kOut) = false := by decide
    have a3 : isKd kOut = true := by decide
    rw [a1] at hF
    rw [a2] at hT
    rw [a3]
    clear a1 a2 a3
    go_enter Tryz.func15, Tryz.ntmps15
    go_wp2_with (first | (go_at_call 18; refine (hF _).mono ?_; rintro e w1 ⟨rfl, rfl⟩) | (go_at_call 19; refine (hT _).mono ?_; rintro e w2 ⟨rfl, rfl⟩))
    go_ret
    exact ⟨rfl, rfl⟩
  · have a1 : kFrom (kd kLess) = true := by decide
    have a2 : kTo (kd kLess) = false := by decide
    have a3 : isKd kLess = true := by decide
    rw [a1] at hF
    rw [a2] at hT
    rw [a3]
    clear a1 a2 a3
    go_enter Tryz.func15, Tryz.ntmps15
    go_wp2_with (first | (go_at_call 18; refine (hF _).mono ?_; rintro e w1 ⟨rfl, rfl⟩) | (go_at_call 19; refine (hT _).mono ?_; rintro e w2 ⟨rfl, rfl⟩))
    go_ret
    exact ⟨rfl, rfl⟩
  · have a1 : kFrom (kd kMove) = true := by decide
    have a2 : kTo (kd kMove) = true := by decide
    have a3 : isKd kMove = true := by decide
    rw [a1] at hF
    rw [a2] at hT
    rw [a3]
    clear a1 a2 a3
    go_enter Tryz.func15, Tryz.ntmps15
    go_wp2_with (first | (go_at_call 18; refine (hF _).mono ?_; rintro e w1 ⟨rfl, rfl⟩) | (go_at_call 19; refine (hT _).mono ?_; rintro e w2 ⟨rfl, rfl⟩))
    go_ret
    exact ⟨rfl, rfl⟩
  · have a1 : kFrom (kd kHold) = false := by decide
    have a2 : kTo (kd kHold) = false := by decide
    have a3 : isKd kHold = true := by decide
    rw [a1] at hF
    rw [a2] at hT
    rw [a3]
    clear a1 a2 a3
    go_enter Tryz.func15, Tryz.ntmps15
    go_wp2_with (first | (go_at_call 18; refine (hF _).mono ?_; rintro e w1 ⟨rfl, rfl⟩) | (go_at_call 19; refine (hT _).mono ?_; rintro e w2 ⟨rfl, rfl⟩))
    go_ret
    exact ⟨rfl, rfl⟩
  · have a1 : kFrom (kd kFree) = false := by decide
    have a2 : kTo (kd kFree) = false := by decide
    have a3 : isKd kFree = true := by decide
    rw [a1] at hF
    rw [a2] at hT
    rw [a3]
    clear a1 a2 a3
    go_enter Tryz.func15, Tryz.ntmps15
    go_wp2_with (first | (go_at_call 18; refine (hF _).mono ?_; rintro e w1 ⟨rfl, rfl⟩) | (go_at_call 19; refine (hT _).mono ?_; rintro e w2 ⟨rfl, rfl⟩))
    go_ret
    exact ⟨rfl, rfl⟩
  · have hd := hn.kd
    have a3 : isKd k = false := by unfold isKd; rw [hd]
    rw [hd] at hF hT
    rw [a3]
    have e1 := other_word hn.goods
    have e2 := other_word hn.lot
    have e3 := other_word hn.hold
    have e4 := other_word hn.free
    simp only at e1 e2 e3 e4
    unfold kFrom at hF
    unfold kTo at hT
    simp only at hF hT
    clear hn hd a3
    go_enter Tryz.func15, Tryz.ntmps15
    go_wp2_with (first | (go_at_call 18; refine (hF _).mono ?_; rintro e w1 ⟨rfl, rfl⟩) | (go_at_call 19; refine (hT _).mono ?_; rintro e w2 ⟨rfl, rfl⟩))
    go_ret
    exact ⟨rfl, rfl⟩
end Go.Proofs.YtgdhfipbbijngaaGreatDoor
namespace Go.Proofs.YtgdhfipbbijngaaGreatDoor
open Go.RowKit Go.Lib Go.Sort

/-- A walk's world. -/
structure Rd (w W : World) (p g : Nat) (e : En) (L : List ByteArray) : Prop where
  below : Below w.heap.size w W
  res : BlkE W w.heap.size zeroE
  ent : BlkE W p e
  word : ∀ (k : Nat) (y : ByteArray), L[k]? = some y → W.cell? ⟨g, k, none⟩ = some (.string y)
  qp : w.heap.size < p
  gp : g < p
theorem Rd.go {w W W' : World} {p g : Nat} {e : En} {L : List ByteArray} (h : Rd w W p g e L) (hb : Below W.heap.size W W') : Rd w W' p g e L where
  below := h.below.trans (hb.mono h.below.size)
  res := h.res.below hb
  ent := h.ent.below hb
  word := fun k y hy => by rw [hb.cell (p := ⟨g, k, none⟩) (cell_lt (h.word k y hy))]; exact h.word k y hy
  qp := h.qp
  gp := h.gp
theorem Rd.set {w W : World} {p g : Nat} {e : En} {L : List ByteArray} (h : Rd w W p g e L) (i : Nat) (v : Value) (e' : En) (he : BlkE (W.setCell ⟨p, i, none⟩ v) p e') : Rd w (W.setCell ⟨p, i, none⟩ v) p g e' L where
  below := h.below.setCell (p := ⟨p, i, none⟩) (Nat.le_of_lt h.qp) v
  res := by
    have hb := (Below.refl p W).setCell (p := ⟨p, i, none⟩) (Nat.le_refl _) v
    exact (hb.block w.heap.size h.qp).trans h.res
  ent := he
  word := fun k y hy => by
    have hb := (Below.refl p W).setCell (p := ⟨p, i, none⟩) (Nat.le_refl _) v
    rw [hb.cell (p := ⟨g, k, none⟩) h.gp]; exact h.word k y hy
  qp := h.qp
  gp := h.gp
/-- What Cut leaves. -/
structure Cu (w w1 : World) (g : Nat) (L : List ByteArray) : Prop where
  below : Below w.heap.size w w1
  res : BlkE w1 w.heap.size zeroE
  word : ∀ (k : Nat) (y : ByteArray), L[k]? = some y → w1.cell? ⟨g, k, none⟩ = some (.string y)
  lt : g < w1.heap.size
theorem Cu.rd {w w1 : World} {g : Nat} {L : List ByteArray} (h : Cu w w1 g L) (k : ByteArray) : Rd w (w1.alloc (celE (k, zeroG, zeroL, zeroP, zeroP, 0))) w1.heap.size g (k, zeroG, zeroL, zeroP, zeroP, 0) L := by
  have hb : Below w1.heap.size w1 (w1.alloc (celE (k, zeroG, zeroL, zeroP, zeroP, 0))) := (Below.refl _ _).alloc (Nat.le_refl _) _
  exact ⟨h.below.trans (hb.mono h.below.size), h.res.below hb, BlkE.new w1 _, fun i y hy => by rw [hb.cell (p := ⟨g, i, none⟩) h.lt]; exact h.word i y hy, h.res.lt, h.lt⟩
theorem strs_get (ps : List (List UInt8)) (k : Nat) : (strs ps)[k]? = (ps[k]?).map fun p => Value.string ⟨p.toArray⟩ := by unfold strs; simp
/-- Cut at a blank. -/
theorem refCutW (x : ByteArray) (w : World) (hz : x.size ≤ 100000) :
    Calls Tryz.prog 14 #[.string x, .int .u8 ((32 : UInt8).toNat : Int)] (w.alloc (celE zeroE)) fun e w1 => ∃ g cap, e = .returned (.slice (some ⟨g, 0, none⟩) (splitL 32 x.data.toList).length cap) ∧ (splitL 32 x.data.toList).length ≤ cap ∧ Cu w w1 g ((splitL 32 x.data.toList).map arr) := by
  refine (refCut x 32 (w.alloc (celE zeroE)) hz).mono ?_
  rintro e w1 ⟨g, cap, he, hown, hb⟩
  have hB : Below w.heap.size w (w.alloc (celE zeroE)) := (Below.refl _ w).alloc (Nat.le_refl _) _
  have hpos : 0 < (splitL 32 x.data.toList).length := List.length_pos_iff.2 (split_pos 32 _)
  have hcell : ∀ (k : Nat) (y : ByteArray), ((splitL 32 x.data.toList).map arr)[k]? = some y → w1.cell? ⟨g, k, none⟩ = some (.string y) := fun k y hy => by
    have hk : k < (splitL 32 x.data.toList).length := by
      have := (List.getElem?_eq_some_iff.1 hy).1
      simpa using this
    rw [hown.cellAt k (by omega), strs_get]
    rw [List.getElem?_map] at hy
    generalize (splitL 32 x.data.toList)[k]? = o at hy
    cases o with
    | none => cases hy
    | some p => simp only [Option.map_some, Option.some.injEq] at hy ⊢; rw [← hy]
  refine ⟨g, cap, he, ?_, hB.trans (hb.mono hB.size), (BlkE.new w zeroE).below hb, hcell, ?_⟩
  · rcases hown.2 with ⟨-, h0⟩ | ⟨g', cap', cur, hv, -, -, hle, -⟩
    · omega
    · injection hv with h1 h2 h3
      omega
  · obtain ⟨t, ht⟩ := wlen_head x.data.toList
    exact cell_lt (hcell 0 _ (by rw [ht]; rfl))
/-- The worlds of an entry of pieces: its lot's name stored, its number stored. -/
theorem Rd.pieces {w W3 : World} {p g : Nat} {k : ByteArray} {L : List ByteArray} (h3 : Rd w W3 p g (k, (⟨#[]⟩, 0), (⟨#[]⟩, ⟨#[]⟩, 0, 0), (⟨#[]⟩, 0, 0), (⟨#[]⟩, 0, 0), 0) L) (a : ByteArray) (v : Int) : ∃ W4 W5 : World,
    W3.setCell ⟨p, 3, none⟩ (.string a) = W4 ∧ W4.setCell ⟨p, 13, none⟩ (.int .i64 v) = W5 ∧
    Rd w W4 p g (k, (⟨#[]⟩, 0), (a, ⟨#[]⟩, 0, 0), (⟨#[]⟩, 0, 0), (⟨#[]⟩, 0, 0), 0) L ∧ Rd w W5 p g (k, (⟨#[]⟩, 0), (a, ⟨#[]⟩, 0, 0), (⟨#[]⟩, 0, 0), (⟨#[]⟩, 0, 0), v) L := by
  have h4 := h3.set 3 (.string a) (k, (⟨#[]⟩, 0), (a, ⟨#[]⟩, 0, 0), (⟨#[]⟩, 0, 0), (⟨#[]⟩, 0, 0), 0) (set_cell h3.ent 3 _ rfl)
  have h5 := h4.set 13 (.int .i64 v) (k, (⟨#[]⟩, 0), (a, ⟨#[]⟩, 0, 0), (⟨#[]⟩, 0, 0), (⟨#[]⟩, 0, 0), v) (set_cell h4.ent 13 _ rfl)
  exact ⟨_, _, rfl, rfl, h4, h5⟩
theorem Rd.alloc {w W : World} {p g : Nat} {e : En} {L : List ByteArray} (h : Rd w W p g e L) (o : Obj) : Rd w (W.alloc o) p g e L := h.go ((Below.refl _ _).alloc (Nat.le_refl _) _)
theorem Rd.drew {w W : World} {p g : Nat} {e : En} {L : List ByteArray} (h : Rd w W p g e L) : Rd w W.drew p g e L := h.go (Below.refl _ _).drew
/-- A place is read, boxed, stored as the one that the entry is from. -/
theorem Rd.from_ {w W : World} {p g : Nat} {k : ByteArray} {gd : Gd} {lo : Lo} {f t : Pl} {n : Int} {L : List ByteArray} (h : Rd w W p g (k, gd, lo, f, t, n) L) (z : ByteArray) (r b : Int) : ∃ W1 W2 W3 W4 : World,
    W.alloc (.cells #[.string z, .int .i64 r, .int .i64 b] 27) = W1 ∧ W1.setCell ⟨p, 7, none⟩ (.string z) = W2 ∧ W2.setCell ⟨p, 8, none⟩ (.int .i64 r) = W3 ∧ W3.setCell ⟨p, 9, none⟩ (.int .i64 b) = W4 ∧
    BoxAt W.heap.size (z, r, b) W1 ∧ Rd w W1 p g (k, gd, lo, f, t, n) L ∧ Rd w W2 p g (k, gd, lo, (z, f.2), t, n) L ∧ Rd w W3 p g (k, gd, lo, (z, r, f.2.2), t, n) L ∧ Rd w W4 p g (k, gd, lo, (z, r, b), t, n) L := by
  have h1 := h.alloc (.cells #[.string z, .int .i64 r, .int .i64 b] 27)
  have h2 := h1.set 7 (.string z) (k, gd, lo, (z, f.2), t, n) (set_cell h1.ent 7 _ rfl)
  have h3 := h2.set 8 (.int .i64 r) (k, gd, lo, (z, r, f.2.2), t, n) (set_cell h2.ent 8 _ rfl)
  have h4 := h3.set 9 (.int .i64 b) (k, gd, lo, (z, r, b), t, n) (set_cell h3.ent 9 _ rfl)
  exact ⟨_, _, _, _, rfl, rfl, rfl, rfl, BoxAt.new W (z, r, b) _ _ rfl, h1, h2, h3, h4⟩
/-- .. as the one that it is to. -/
theorem Rd.to_ {w W : World} {p g : Nat} {k : ByteArray} {gd : Gd} {lo : Lo} {f t : Pl} {n : Int} {L : List ByteArray} (h : Rd w W p g (k, gd, lo, f, t, n) L) (z : ByteArray) (r b : Int) : ∃ W1 W2 W3 W4 : World,
    W.alloc (.cells #[.string z, .int .i64 r, .int .i64 b] 27) = W1 ∧ W1.setCell ⟨p, 10, none⟩ (.string z) = W2 ∧ W2.setCell ⟨p, 11, none⟩ (.int .i64 r) = W3 ∧ W3.setCell ⟨p, 12, none⟩ (.int .i64 b) = W4 ∧
    BoxAt W.heap.size (z, r, b) W1 ∧ Rd w W1 p g (k, gd, lo, f, t, n) L ∧ Rd w W2 p g (k, gd, lo, f, (z, t.2), n) L ∧ Rd w W3 p g (k, gd, lo, f, (z, r, t.2.2), n) L ∧ Rd w W4 p g (k, gd, lo, f, (z, r, b), n) L := by
  have h1 := h.alloc (.cells #[.string z, .int .i64 r, .int .i64 b] 27)
  have h2 := h1.set 10 (.string z) (k, gd, lo, f, (z, t.2), n) (set_cell h1.ent 10 _ rfl)
  have h3 := h2.set 11 (.int .i64 r) (k, gd, lo, f, (z, r, t.2.2), n) (set_cell h2.ent 11 _ rfl)
  have h4 := h3.set 12 (.int .i64 b) (k, gd, lo, f, (z, r, b), n) (set_cell h3.ent 12 _ rfl)
  exact ⟨_, _, _, _, rfl, rfl, rfl, rfl, BoxAt.new W (z, r, b) _ _ rfl, h1, h2, h3, h4⟩
/-- A lot is read, boxed, stored. -/
theorem Rd.lot_ {w W : World} {p g : Nat} {k : ByteArray} {gd : Gd} {lo : Lo} {f t : Pl} {n : Int} {L : List ByteArray} (h : Rd w W p g (k, gd, lo, f, t, n) L) (a c : ByteArray) (u v : Int) : ∃ W1 W2 W3 W4 W5 : World,
    W.alloc (.cells #[.string a, .string c, .int .i64 u, .int .i64 v] 25) = W1 ∧ W1.setCell ⟨p, 3, none⟩ (.string a) = W2 ∧ W2.setCell ⟨p, 4, none⟩ (.string c) = W3 ∧ W3.setCell ⟨p, 5, none⟩ (.int .i64 u) = W4 ∧ W4.setCell ⟨p, 6, none⟩ (.int .i64 v) = W5 ∧
    BoxL W.heap.size (a, c, u, v) W1 ∧ Rd w W1 p g (k, gd, lo, f, t, n) L ∧ Rd w W2 p g (k, gd, (a, lo.2), f, t, n) L ∧ Rd w W3 p g (k, gd, (a, c, lo.2.2), f, t, n) L ∧ Rd w W4 p g (k, gd, (a, c, u, lo.2.2.2), f, t, n) L ∧ Rd w W5 p g (k, gd, (a, c, u, v), f, t, n) L := by
  have h1 := h.alloc (.cells #[.string a, .string c, .int .i64 u, .int .i64 v] 25)
  have h2 := h1.set 3 (.string a) (k, gd, (a, lo.2), f, t, n) (set_cell h1.ent 3 _ rfl)
  have h3 := h2.set 4 (.string c) (k, gd, (a, c, lo.2.2), f, t, n) (set_cell h2.ent 4 _ rfl)
  have h4 := h3.set 5 (.int .i64 u) (k, gd, (a, c, u, lo.2.2.2), f, t, n) (set_cell h3.ent 5 _ rfl)
  have h5 := h4.set 6 (.int .i64 v) (k, gd, (a, c, u, v), f, t, n) (set_cell h4.ent 6 _ rfl)
  exact ⟨_, _, _, _, _, rfl, rfl, rfl, rfl, rfl, BoxL.new W (a, c, u, v) _ rfl, h1, h2, h3, h4, h5⟩
end Go.Proofs.YtgdhfipbbijngaaGreatDoor
namespace Go.Proofs.YtgdhfipbbijngaaGreatDoor
open Go.RowKit Go.Lib Go.Sort

set_option maxHeartbeats 1000000 in
/-- GoodsError. -/
theorem gerror_any (g : Gd) (w : World) (hz : g.1.size ≤ maxLen) :
    Calls Tryz.prog 24 #[.agg #[.string g.1, .int .i64 g.2]] w fun e w' => e = .returned (.int .i64 (gdErr g)) ∧ Below w.heap.size w w' := by
  obtain ⟨x, pack⟩ := g
  simp only at hz ⊢
  have hn : ∀ w, Calls Tryz.prog 26 #[.string x] w _ := fun w => isName_any x w hz
  unfold gdErr
  simp only
  cases h1 : isName x.data.toList with
  | false =>
    rw [h1] at hn
    rw [if_neg (by decide)]
    go_enter Tryz.func24, Tryz.ntmps24
    go_wp2_with (go_at_call 26; refine (hn _).mono ?_; rintro e w1 ⟨rfl, rfl⟩)
    go_ret
    exact ⟨rfl, (Below.refl _ _).alloc (Nat.le_refl _) _⟩
  | true =>
    rw [h1] at hn
    rw [if_pos rfl]
    have hc : (pack < 1 ∧ pw pack = false) ∨ (1 ≤ pack ∧ 1000 < pack ∧ pw pack = false) ∨ (1 ≤ pack ∧ pack ≤ 1000 ∧ pw pack = true) := by
      unfold pw
      by_cases q1 : pack < 1
      · exact Or.inl ⟨q1, by simp; omega⟩
      · by_cases q2 : 1000 < pack
        · exact Or.inr (Or.inl ⟨by omega, q2, by simp; omega⟩)
        · exact Or.inr (Or.inr ⟨by omega, by omega, by simp; omega⟩)
    rcases hc with ⟨q1, h2⟩ | ⟨q1, q2, h2⟩ | ⟨q1, q2, h2⟩
    · rw [if_neg (by rw [h2]; decide)]
      clear h2
      go_enter Tryz.func24, Tryz.ntmps24
      go_wp2_with (go_at_call 26; refine (hn _).mono ?_; rintro e w1 ⟨rfl, rfl⟩)
      go_ret
      exact ⟨rfl, (Below.refl _ _).alloc (Nat.le_refl _) _⟩
    · rw [if_neg (by rw [h2]; decide)]
      clear h2
      go_enter Tryz.func24, Tryz.ntmps24
      go_wp2_with (go_at_call 26; refine (hn _).mono ?_; rintro e w1 ⟨rfl, rfl⟩)
      go_ret
      exact ⟨rfl, (Below.refl _ _).alloc (Nat.le_refl _) _⟩
    · rw [if_pos h2]
      clear h2
      go_enter Tryz.func24, Tryz.ntmps24
      go_wp2_with (go_at_call 26; refine (hn _).mono ?_; rintro e w1 ⟨rfl, rfl⟩)
      go_ret
      exact ⟨rfl, (Below.refl _ _).alloc (Nat.le_refl _) _⟩
end Go.Proofs.YtgdhfipbbijngaaGreatDoor
namespace Go.Proofs.YtgdhfipbbijngaaGreatDoor
open Go.RowKit Go.Lib Go.Sort

theorem packE_yes (p : Int) (w : World) (h1 : 1 ≤ p) (h2 : p ≤ 1000) : Calls Tryz.prog 58 #[.int .i64 p] w fun e w' => e = .returned (.bool true) ∧ w' = w := by
  go_enter Tryz.func58, Tryz.ntmps58
  go_wp2
  go_ret
  exact ⟨rfl, rfl⟩
theorem packE_no (p : Int) (w : World) (h : pw p = false) : Calls Tryz.prog 58 #[.int .i64 p] w fun e w' => e = .returned (.bool false) ∧ w' = w := by
  have h' : p < 1 ∨ (1 ≤ p ∧ 1000 < p) := by unfold pw at h; simp at h; omega
  clear h
  rcases h' with h | ⟨h, h'⟩
  · go_enter Tryz.func58, Tryz.ntmps58
    go_wp2
    go_ret
    exact ⟨rfl, rfl⟩
  · go_enter Tryz.func58, Tryz.ntmps58
    go_wp2
    go_ret
    exact ⟨by simp [show ¬ p ≤ 1000 by omega], rfl⟩
set_option maxHeartbeats 1000000 in
/-- goods.Check. -/
theorem gcheck_any (g : Gd) (w : World) (s : Nat → Addr) (hz : g.1.size ≤ maxLen) (hs : Two w s) :
    Calls Tryz.prog 40 #[.agg #[.string g.1, .int .i64 g.2]] w fun e w' => e = .returned (errP s (gdErr g)) ∧ Below w.heap.size w w' := by
  obtain ⟨x, pack⟩ := g
  simp only at hz ⊢
  have hs2 : Two (w.alloc (.cells #[.string x, .int .i64 pack] 23)) s := hs.below ((Below.refl _ _).alloc (Nat.le_refl _) _)
  obtain ⟨hB, hN⟩ := hs2
  have hn : ∀ w, Calls Tryz.prog 57 #[.string x] w _ := fun w => name_any x w hz
  cases h1 : isName x.data.toList with
  | false =>
    rw [h1] at hn
    have HE : Hid (errP s (gdErr (x, pack)) = err (s 4)) := by
      show _ = _
      unfold gdErr; simp only [h1]; rfl
    clear hs
    go_enter Tryz.func40, Tryz.ntmps40
    go_wp2_with (go_at_call 57; refine (hn _).mono ?_; rintro e w1 ⟨rfl, rfl⟩)
    go_ret
    exact ⟨by rw [HE.out]; rfl, (Below.refl _ _).alloc (Nat.le_refl _) _⟩
  | true =>
    rw [h1] at hn
    cases h2 : pw pack with
    | false =>
      have HE : Hid (errP s (gdErr (x, pack)) = err (s 1)) := by
        show _ = _
        unfold gdErr; simp only [h1, h2]; rfl
      have hc := fun w => packE_no pack w h2
      clear hs
      go_enter Tryz.func40, Tryz.ntmps40
      go_wp2_with (first | (go_at_call 57; refine (hn _).mono ?_; rintro e w1 ⟨rfl, rfl⟩) | (go_at_call 58; refine (hc _).mono ?_; rintro e w1 ⟨rfl, rfl⟩))
      go_ret
      exact ⟨by rw [HE.out]; rfl, (Below.refl _ _).alloc (Nat.le_refl _) _⟩
    | true =>
      have HE : Hid (errP s (gdErr (x, pack)) = .nilIface) := by
        show _ = _
        unfold gdErr; simp only [h1, h2]; rfl
      have h : 1 ≤ pack ∧ pack ≤ 1000 := by unfold pw at h2; simpa using h2
      have hc := fun w => packE_yes pack w h.1 h.2
      clear hs
      go_enter Tryz.func40, Tryz.ntmps40
      go_wp2_with (first | (go_at_call 57; refine (hn _).mono ?_; rintro e w1 ⟨rfl, rfl⟩) | (go_at_call 58; refine (hc _).mono ?_; rintro e w1 ⟨rfl, rfl⟩))
      go_ret
      exact ⟨by rw [HE.out]; rfl, (Below.refl _ _).alloc (Nat.le_refl _) _⟩
end Go.Proofs.YtgdhfipbbijngaaGreatDoor
namespace Go.Proofs.YtgdhfipbbijngaaGreatDoor
open Go.RowKit Go.Lib Go.Sort

/-- The sentinels of an entry. -/
structure Es (w : World) (s : Nat → Addr) : Prop where
  three : Three w s
  shape : w.cell? ⟨0, 0, none⟩ = some (err (s 2))
  kind : w.cell? ⟨3, 0, none⟩ = some (err (s 3))
theorem Es.below {w w' : World} {s : Nat → Addr} (h : Es w s) (hb : Below w.heap.size w w') : Es w' s where
  three := h.three.below hb
  shape := by rw [hb.cell (p := ⟨0, 0, none⟩) (cell_lt h.shape)]; exact h.shape
  kind := by rw [hb.cell (p := ⟨3, 0, none⟩) (cell_lt h.kind)]; exact h.kind
theorem Sent.es {w : World} {s : Nat → Addr} (h : Sent w s) : Es w s := ⟨h.three, h.cell 2 (by decide), h.cell 3 (by decide)⟩
/-- An entry whose texts a machine can hold. -/
structure SzE (e : En) : Prop where
  k : e.1.size ≤ maxLen
  gc : e.2.1.1.size ≤ maxLen
  li : e.2.2.1.1.size ≤ maxLen
  lc : e.2.2.1.2.1.size ≤ maxLen
  fz : e.2.2.2.1.1.size ≤ maxLen
  tz : e.2.2.2.2.1.1.size ≤ maxLen
theorem Tryz.guardPl : Tryz.prog.eqGuardType Tryz.prog.depth 27 = false := by kernel_rfl
theorem eqPl10 (x y : Pl) (w : World) : (Op.equalIn 10000 27 (.agg #[.string x.1, .int .i64 x.2.1, .int .i64 x.2.2]) (.agg #[.string y.1, .int .i64 y.2.1, .int .i64 y.2.2])).run Tryz.prog w = .ok (decide (x = y)) w := by
  obtain ⟨a, r, b⟩ := x
  obtain ⟨a', r', b'⟩ := y
  have u3 := Tryz.underlying3
  have a3 := Tryz.isAgg3
  have z3 := Tryz.sizeOf3
  have u9 := Tryz.underlying9
  have a9 := Tryz.isAgg9
  have z9 := Tryz.sizeOf9
  have hS : Tryz.prog.underlying 27 = some (.struct (Tryz.prog.fieldsOf 27)) := by kernel_rfl
  have hp : Tryz.prog.stoodInHeld 27 = false := by kernel_rfl
  rw [show (10000 : Nat) = 9999 + 1 from rfl, run_equalIn_agg w 9999 27 _ _ hS hp]
  simp only [Program.fieldsOf, Tryz.underlying27]
  have e3 := same_eq a a'
  go_simp
  by_cases h1 : a = a' <;> by_cases h2 : r = r' <;> by_cases h3 : b = b' <;> simp [h1, h2, h3]
set_option maxRecDepth 100000 in
set_option maxHeartbeats 2000000 in
theorem cp_other (e : En) (w : World) (s : Nat → Addr) (hk : NoKind e.1) (hs : Es w s) :
    Calls Tryz.prog 42 #[agE e] w fun r w' => r = .returned (err (s 3)) ∧ Below w.heap.size w w' := by
  have hB : Below w.heap.size w (w.alloc (celE e)) := (Below.refl _ w).alloc (Nat.le_refl _) _
  have hPl := places_other e.1 w.heap.size (w.alloc (celE e)) hk (BlkE.new w e).at.c0
  have hkd := (hs.below hB).kind
  clear hs hk
  obtain ⟨k, ⟨gc, gp⟩, ⟨li, lc, lu, lk⟩, ⟨fz, fr, fb⟩, ⟨tz, tr, tb⟩, n⟩ := e
  unfold agE celE at *
  simp only at *
  have HP : Hid (Calls Tryz.prog 43 _ _ _) := hPl
  clear hPl
  go_enter Tryz.func42, Tryz.ntmps42
  go_wp2_with (go_at_call 43; refine HP.out.mono ?_; rintro e w1 ⟨rfl, rfl⟩)
  go_ret
  exact ⟨rfl, hB⟩
set_option maxRecDepth 100000 in
set_option maxHeartbeats 8000000 in
theorem cp_to (e : En) (w : World) (s : Nat → Addr) (hk : e.1 = kIn ∨ e.1 = kMore) (hz : SzE e) (hs : Es w s) :
    Calls Tryz.prog 42 #[agE e] w fun r w' => r = .returned (errP s (pieceErr .tow e)) ∧ Below w.heap.size w w' := by
  have hB : Below w.heap.size w (w.alloc (celE e)) := (Below.refl _ w).alloc (Nat.le_refl _) _
  have hE := BlkE.new w e
  have hPl := places_to e.1 w.heap.size (w.alloc (celE e)) hk hE.at.c0
  have hN : ∀ w, Calls Tryz.prog 57 #[.string e.2.2.1.1] w _ := fun w => name_any e.2.2.1.1 w hz.li
  have hT := fun w1 (hb : Below w.heap.size w w1) => pcheck_any e.2.2.2.2.1 w1 s hz.tz (hs.three.two.below hb)
  have HS : Hid (∀ w1, Below w.heap.size w w1 → Es w1 s) := fun w1 hb => hs.below hb
  clear hz hs
  obtain ⟨k, ⟨gc, gp⟩, ⟨li, lc, lu, lk⟩, ⟨fz, fr, fb⟩, ⟨tz, tr, tb⟩, n⟩ := e
  have hsz : w.heap.size < (w.alloc (celE (k, (gc, gp), (li, lc, lu, lk), (fz, fr, fb), (tz, tr, tb), n))).heap.size := by simp
  unfold agE celE at *
  unfold agP at *
  simp only at *
  have hmv : (k.toList == (⟨#[109, 111, 118, 101]⟩ : ByteArray).data.toList) = false := other_word (by rcases hk with rfl | rfl <;> decide)
  simp only at hmv
  have hB01 : Below (w.alloc (.cells #[.string k, .string gc, .int .i64 gp, .string li, .string lc, .int .i64 lu, .int .i64 lk, .string fz, .int .i64 fr, .int .i64 fb, .string tz, .int .i64 tr, .int .i64 tb, .int .i64 n] 29)).heap.size (w.alloc (.cells #[.string k, .string gc, .int .i64 gp, .string li, .string lc, .int .i64 lu, .int .i64 lk, .string fz, .int .i64 fr, .int .i64 fb, .string tz, .int .i64 tr, .int .i64 tb, .int .i64 n] 29)) ((w.alloc (.cells #[.string k, .string gc, .int .i64 gp, .string li, .string lc, .int .i64 lu, .int .i64 lk, .string fz, .int .i64 fr, .int .i64 fb, .string tz, .int .i64 tr, .int .i64 tb, .int .i64 n] 29)).alloc (.cells #[.pointer (some ⟨w.heap.size, 10, none⟩)] 77)) := (Below.refl _ _).alloc (Nat.le_refl _) _
  have hE1 := hE.below hB01
  have hB1 : Below w.heap.size w ((w.alloc (.cells #[.string k, .string gc, .int .i64 gp, .string li, .string lc, .int .i64 lu, .int .i64 lk, .string fz, .int .i64 fr, .int .i64 fb, .string tz, .int .i64 tr, .int .i64 tb, .int .i64 n] 29)).alloc (.cells #[.pointer (some ⟨w.heap.size, 10, none⟩)] 77)) := hB.trans (hB01.mono hB.size)
  have hS1 := HS.out _ hB1
  have hkd := hS1.three.two.name
  have hbd := hS1.three.two.bound
  have hsh := hS1.shape
  obtain ⟨a0, a1, a2, a3, a4, a5, a6, a7, a8, a9, a10, a11, a12, a13⟩ := hE1.at
  simp only at a0 a1 a2 a3 a4 a5 a6 a7 a8 a9 a10 a11 a12 a13
  have HP : Hid (Calls Tryz.prog 43 _ _ _) := hPl
  clear hPl hE hB hB01 hk
  cases h1 : isName li.data.toList with
  | false =>
    rw [h1] at hN
    have HE : Hid (errP s (pieceErr .tow (k, (gc, gp), (li, lc, lu, lk), (fz, fr, fb), (tz, tr, tb), n)) = err (s 4)) := by
      show _ = _
      unfold pieceErr fromErr toErr numErr kFrom kTo; simp only [h1, Bool.false_eq_true, if_false]
      (try rfl)
    go_enter Tryz.func42, Tryz.ntmps42
    go_wp2_with (first | (go_at_call 43; refine HP.out.mono ?_; rintro e w1 ⟨rfl, rfl⟩) | (go_at_call 57; refine (hN _).mono ?_; rintro e w2 ⟨rfl, rfl⟩))
    go_ret
    exact ⟨by rw [HE.out]; rfl, hB1⟩
  | true =>
    rw [h1] at hN
    by_cases h2 : placeErr (tz, tr, tb) = 0
    · rw [h2, errP_zero] at hT
      rcases (by omega : n < 1 ∨ (1 ≤ n ∧ 1099511627776 < n) ∨ (1 ≤ n ∧ n ≤ 1099511627776)) with q1 | ⟨q1, q2⟩ | ⟨q1, q2⟩
      · have h5 : numW n = false := by unfold numW; simp; omega
        have HE : Hid (errP s (pieceErr .tow (k, (gc, gp), (li, lc, lu, lk), (fz, fr, fb), (tz, tr, tb), n)) = err (s 1)) := by
          show _ = _
          unfold pieceErr fromErr toErr numErr kFrom kTo; simp only [h1, h2, h5, Bool.false_eq_true, if_false, if_true]
          (try rfl)
        clear h5
        go_enter Tryz.func42, Tryz.ntmps42
        go_wp2_with (first | (go_at_call 43; refine HP.out.mono ?_; rintro e w1 ⟨rfl, rfl⟩) | (go_at_call 57; refine (hN _).mono ?_; rintro e w2 ⟨rfl, rfl⟩))
        refine wp_loop_rounds 2 ?_
        rw [rounds_succ]
        go_wp2_with (first | (go_at_call_of 59 (Value.agg #[.string tz, .int .i64 tr, .int .i64 tb]); refine (hT _ hB1).mono ?_; rintro e w3 ⟨rfl, hb3⟩; have hBl := hB1.trans (hb3.mono hB1.size); obtain ⟨c0, c1, c2, c3, c4, c5, c6, c7, c8, c9, c10, c11, c12, c13⟩ := (hE1.below hb3).at; simp only at c0 c1 c2 c3 c4 c5 c6 c7 c8 c9 c10 c11 c12 c13; have hS3 := HS.out _ hBl; have hbd3 := hS3.three.two.bound; have hsh3 := hS3.shape))
        rw [rounds_succ]
        go_wp2_with (first | (go_at_call_of 59 (Value.agg #[.string tz, .int .i64 tr, .int .i64 tb]); refine (hT _ hB1).mono ?_; rintro e w3 ⟨rfl, hb3⟩; have hBl := hB1.trans (hb3.mono hB1.size); obtain ⟨c0, c1, c2, c3, c4, c5, c6, c7, c8, c9, c10, c11, c12, c13⟩ := (hE1.below hb3).at; simp only at c0 c1 c2 c3 c4 c5 c6 c7 c8 c9 c10 c11 c12 c13; have hS3 := HS.out _ hBl; have hbd3 := hS3.three.two.bound; have hsh3 := hS3.shape))
        go_ret
        exact ⟨by rw [HE.out]; rfl, hBl⟩
      · have h5 : numW n = false := by unfold numW; simp; omega
        have HE : Hid (errP s (pieceErr .tow (k, (gc, gp), (li, lc, lu, lk), (fz, fr, fb), (tz, tr, tb), n)) = err (s 1)) := by
          show _ = _
          unfold pieceErr fromErr toErr numErr kFrom kTo; simp only [h1, h2, h5, Bool.false_eq_true, if_false, if_true]
          (try rfl)
        clear h5
        go_enter Tryz.func42, Tryz.ntmps42
        go_wp2_with (first | (go_at_call 43; refine HP.out.mono ?_; rintro e w1 ⟨rfl, rfl⟩) | (go_at_call 57; refine (hN _).mono ?_; rintro e w2 ⟨rfl, rfl⟩))
        refine wp_loop_rounds 2 ?_
        rw [rounds_succ]
        go_wp2_with (first | (go_at_call_of 59 (Value.agg #[.string tz, .int .i64 tr, .int .i64 tb]); refine (hT _ hB1).mono ?_; rintro e w3 ⟨rfl, hb3⟩; have hBl := hB1.trans (hb3.mono hB1.size); obtain ⟨c0, c1, c2, c3, c4, c5, c6, c7, c8, c9, c10, c11, c12, c13⟩ := (hE1.below hb3).at; simp only at c0 c1 c2 c3 c4 c5 c6 c7 c8 c9 c10 c11 c12 c13; have hS3 := HS.out _ hBl; have hbd3 := hS3.three.two.bound; have hsh3 := hS3.shape))
        rw [rounds_succ]
        go_wp2_with (first | (go_at_call_of 59 (Value.agg #[.string tz, .int .i64 tr, .int .i64 tb]); refine (hT _ hB1).mono ?_; rintro e w3 ⟨rfl, hb3⟩; have hBl := hB1.trans (hb3.mono hB1.size); obtain ⟨c0, c1, c2, c3, c4, c5, c6, c7, c8, c9, c10, c11, c12, c13⟩ := (hE1.below hb3).at; simp only at c0 c1 c2 c3 c4 c5 c6 c7 c8 c9 c10 c11 c12 c13; have hS3 := HS.out _ hBl; have hbd3 := hS3.three.two.bound; have hsh3 := hS3.shape))
        go_ret
        exact ⟨by rw [HE.out]; rfl, hBl⟩
      · have h5 : numW n = true := by unfold numW; simp; omega
        have HE : Hid (errP s (pieceErr .tow (k, (gc, gp), (li, lc, lu, lk), (fz, fr, fb), (tz, tr, tb), n)) = .nilIface) := by
          show _ = _
          unfold pieceErr fromErr toErr numErr kFrom kTo; simp only [h1, h2, h5, if_true, reduceCtorEq, false_and, if_false]
          (try rfl)
        clear h5
        go_enter Tryz.func42, Tryz.ntmps42
        go_wp2_with (first | (go_at_call 43; refine HP.out.mono ?_; rintro e w1 ⟨rfl, rfl⟩) | (go_at_call 57; refine (hN _).mono ?_; rintro e w2 ⟨rfl, rfl⟩))
        refine wp_loop_rounds 2 ?_
        rw [rounds_succ]
        go_wp2_with (first | (go_at_call_of 59 (Value.agg #[.string tz, .int .i64 tr, .int .i64 tb]); refine (hT _ hB1).mono ?_; rintro e w3 ⟨rfl, hb3⟩; have hBl := hB1.trans (hb3.mono hB1.size); obtain ⟨c0, c1, c2, c3, c4, c5, c6, c7, c8, c9, c10, c11, c12, c13⟩ := (hE1.below hb3).at; simp only at c0 c1 c2 c3 c4 c5 c6 c7 c8 c9 c10 c11 c12 c13; have hS3 := HS.out _ hBl; have hbd3 := hS3.three.two.bound; have hsh3 := hS3.shape))
        rw [rounds_succ]
        go_wp2_with (first | (go_at_call_of 59 (Value.agg #[.string tz, .int .i64 tr, .int .i64 tb]); refine (hT _ hB1).mono ?_; rintro e w3 ⟨rfl, hb3⟩; have hBl := hB1.trans (hb3.mono hB1.size); obtain ⟨c0, c1, c2, c3, c4, c5, c6, c7, c8, c9, c10, c11, c12, c13⟩ := (hE1.below hb3).at; simp only at c0 c1 c2 c3 c4 c5 c6 c7 c8 c9 c10 c11 c12 c13; have hS3 := HS.out _ hBl; have hbd3 := hS3.three.two.bound; have hsh3 := hS3.shape))
        go_ret
        exact ⟨by rw [HE.out]; rfl, hBl⟩
    · have hx := errP_pos s h2
      rw [hx] at hT
      have HE : Hid (errP s (pieceErr .tow (k, (gc, gp), (li, lc, lu, lk), (fz, fr, fb), (tz, tr, tb), n)) = err (s (placeErr (tz, tr, tb) - 1))) := by
        show _ = _
        unfold pieceErr fromErr toErr numErr kFrom kTo; simp only [h1, h2, if_true, if_false, ← hx]
        (try rfl)
      clear hx
      generalize s (placeErr (tz, tr, tb) - 1) = ad at *
      go_enter Tryz.func42, Tryz.ntmps42
      go_wp2_with (first | (go_at_call 43; refine HP.out.mono ?_; rintro e w1 ⟨rfl, rfl⟩) | (go_at_call 57; refine (hN _).mono ?_; rintro e w2 ⟨rfl, rfl⟩))
      refine wp_loop_rounds 2 ?_
      rw [rounds_succ]
      go_wp2_with (first | (go_at_call_of 59 (Value.agg #[.string tz, .int .i64 tr, .int .i64 tb]); refine (hT _ hB1).mono ?_; rintro e w3 ⟨rfl, hb3⟩; have hBl := hB1.trans (hb3.mono hB1.size); obtain ⟨c0, c1, c2, c3, c4, c5, c6, c7, c8, c9, c10, c11, c12, c13⟩ := (hE1.below hb3).at; simp only at c0 c1 c2 c3 c4 c5 c6 c7 c8 c9 c10 c11 c12 c13; have hS3 := HS.out _ hBl; have hbd3 := hS3.three.two.bound; have hsh3 := hS3.shape))
      go_ret
      exact ⟨by rw [HE.out]; rfl, hBl⟩
set_option maxRecDepth 100000 in
set_option maxHeartbeats 8000000 in
theorem cp_hold (e : En) (w : World) (s : Nat → Addr) (hk : e.1 = kHold ∨ e.1 = kFree) (hz : SzE e) (hs : Es w s) :
    Calls Tryz.prog 42 #[agE e] w fun r w' => r = .returned (errP s (pieceErr .hold e)) ∧ Below w.heap.size w w' := by
  have hB : Below w.heap.size w (w.alloc (celE e)) := (Below.refl _ w).alloc (Nat.le_refl _) _
  have hE := BlkE.new w e
  have hPl := places_hold e.1 w.heap.size (w.alloc (celE e)) hk hE.at.c0
  have hN : ∀ w, Calls Tryz.prog 57 #[.string e.2.2.1.1] w _ := fun w => name_any e.2.2.1.1 w hz.li
  have HS : Hid (∀ w1, Below w.heap.size w w1 → Es w1 s) := fun w1 hb => hs.below hb
  clear hz hs
  obtain ⟨k, ⟨gc, gp⟩, ⟨li, lc, lu, lk⟩, ⟨fz, fr, fb⟩, ⟨tz, tr, tb⟩, n⟩ := e
  have hsz : w.heap.size < (w.alloc (celE (k, (gc, gp), (li, lc, lu, lk), (fz, fr, fb), (tz, tr, tb), n))).heap.size := by simp
  unfold agE celE at *
  simp only at *
  have hmv : (k.toList == (⟨#[109, 111, 118, 101]⟩ : ByteArray).data.toList) = false := other_word (by rcases hk with rfl | rfl <;> decide)
  simp only at hmv
  have hB01 : Below (w.alloc (.cells #[.string k, .string gc, .int .i64 gp, .string li, .string lc, .int .i64 lu, .int .i64 lk, .string fz, .int .i64 fr, .int .i64 fb, .string tz, .int .i64 tr, .int .i64 tb, .int .i64 n] 29)).heap.size (w.alloc (.cells #[.string k, .string gc, .int .i64 gp, .string li, .string lc, .int .i64 lu, .int .i64 lk, .string fz, .int .i64 fr, .int .i64 fb, .string tz, .int .i64 tr, .int .i64 tb, .int .i64 n] 29)) (w.alloc (.cells #[.string k, .string gc, .int .i64 gp, .string li, .string lc, .int .i64 lu, .int .i64 lk, .string fz, .int .i64 fr, .int .i64 fb, .string tz, .int .i64 tr, .int .i64 tb, .int .i64 n] 29)) := Below.refl _ _
  have hE1 := hE.below hB01
  have hB1 : Below w.heap.size w (w.alloc (.cells #[.string k, .string gc, .int .i64 gp, .string li, .string lc, .int .i64 lu, .int .i64 lk, .string fz, .int .i64 fr, .int .i64 fb, .string tz, .int .i64 tr, .int .i64 tb, .int .i64 n] 29)) := hB.trans (hB01.mono hB.size)
  have hS1 := HS.out _ hB1
  have hkd := hS1.three.two.name
  have hbd := hS1.three.two.bound
  have hsh := hS1.shape
  obtain ⟨a0, a1, a2, a3, a4, a5, a6, a7, a8, a9, a10, a11, a12, a13⟩ := hE1.at
  simp only at a0 a1 a2 a3 a4 a5 a6 a7 a8 a9 a10 a11 a12 a13
  have HP : Hid (Calls Tryz.prog 43 _ _ _) := hPl
  clear hPl hE hB hB01 hk
  cases h1 : isName li.data.toList with
  | false =>
    rw [h1] at hN
    have HE : Hid (errP s (pieceErr .hold (k, (gc, gp), (li, lc, lu, lk), (fz, fr, fb), (tz, tr, tb), n)) = err (s 4)) := by
      show _ = _
      unfold pieceErr fromErr toErr numErr kFrom kTo; simp only [h1, Bool.false_eq_true, if_false]
      (try rfl)
    go_enter Tryz.func42, Tryz.ntmps42
    go_wp2_with (first | (go_at_call 43; refine HP.out.mono ?_; rintro e w1 ⟨rfl, rfl⟩) | (go_at_call 57; refine (hN _).mono ?_; rintro e w2 ⟨rfl, rfl⟩))
    go_ret
    exact ⟨by rw [HE.out]; rfl, hB1⟩
  | true =>
    rw [h1] at hN
    rcases (by omega : n < 1 ∨ (1 ≤ n ∧ 1099511627776 < n) ∨ (1 ≤ n ∧ n ≤ 1099511627776)) with q1 | ⟨q1, q2⟩ | ⟨q1, q2⟩
    · have h5 : numW n = false := by unfold numW; simp; omega
      have HE : Hid (errP s (pieceErr .hold (k, (gc, gp), (li, lc, lu, lk), (fz, fr, fb), (tz, tr, tb), n)) = err (s 1)) := by
        show _ = _
        unfold pieceErr fromErr toErr numErr kFrom kTo; simp only [h1, h5, Bool.false_eq_true, if_false, if_true]
        (try rfl)
      clear h5
      go_enter Tryz.func42, Tryz.ntmps42
      go_wp2_with (first | (go_at_call 43; refine HP.out.mono ?_; rintro e w1 ⟨rfl, rfl⟩) | (go_at_call 57; refine (hN _).mono ?_; rintro e w2 ⟨rfl, rfl⟩))
      refine wp_loop_rounds 1 ?_
      rw [rounds_succ]
      go_wp2
      go_ret
      exact ⟨by rw [HE.out]; rfl, hB1⟩
    · have h5 : numW n = false := by unfold numW; simp; omega
      have HE : Hid (errP s (pieceErr .hold (k, (gc, gp), (li, lc, lu, lk), (fz, fr, fb), (tz, tr, tb), n)) = err (s 1)) := by
        show _ = _
        unfold pieceErr fromErr toErr numErr kFrom kTo; simp only [h1, h5, Bool.false_eq_true, if_false, if_true]
        (try rfl)
      clear h5
      go_enter Tryz.func42, Tryz.ntmps42
      go_wp2_with (first | (go_at_call 43; refine HP.out.mono ?_; rintro e w1 ⟨rfl, rfl⟩) | (go_at_call 57; refine (hN _).mono ?_; rintro e w2 ⟨rfl, rfl⟩))
      refine wp_loop_rounds 1 ?_
      rw [rounds_succ]
      go_wp2
      go_ret
      exact ⟨by rw [HE.out]; rfl, hB1⟩
    · have h5 : numW n = true := by unfold numW; simp; omega
      have HE : Hid (errP s (pieceErr .hold (k, (gc, gp), (li, lc, lu, lk), (fz, fr, fb), (tz, tr, tb), n)) = .nilIface) := by
        show _ = _
        unfold pieceErr fromErr toErr numErr kFrom kTo; simp only [h1, h5, if_true, reduceCtorEq, false_and, if_false]
        (try rfl)
      clear h5
      go_enter Tryz.func42, Tryz.ntmps42
      go_wp2_with (first | (go_at_call 43; refine HP.out.mono ?_; rintro e w1 ⟨rfl, rfl⟩) | (go_at_call 57; refine (hN _).mono ?_; rintro e w2 ⟨rfl, rfl⟩))
      refine wp_loop_rounds 1 ?_
      rw [rounds_succ]
      go_wp2
      go_ret
      exact ⟨by rw [HE.out]; rfl, hB1⟩
end Go.Proofs.YtgdhfipbbijngaaGreatDoor
namespace Go.Proofs.YtgdhfipbbijngaaGreatDoor
open Go.RowKit Go.Lib Go.Sort

set_option maxHeartbeats 1000000 in
/-- PlaceError. -/
theorem placeError_any (x : Pl) (w : World) (hz : x.1.size ≤ maxLen) :
    Calls Tryz.prog 27 #[agP x] w fun e w' => e = .returned (.int .i64 (placeErr x)) ∧ Below w.heap.size w w' := by
  obtain ⟨a, r, b⟩ := x
  unfold agP
  simp only at hz ⊢
  have hB : ∀ o, Below w.heap.size w (w.alloc o) := fun o => (Below.refl _ w).alloc (Nat.le_refl _) _
  have hn : ∀ w, Calls Tryz.prog 26 #[.string a] w _ := fun w => isName_any a w hz
  cases h1 : isName a.data.toList with
  | false =>
    rw [h1] at hn
    have HE : Hid (placeErr (a, r, b) = 5) := by
      show _ = _
      unfold placeErr; simp only [h1]; rfl
    go_enter Tryz.func27, Tryz.ntmps27
    go_wp2_with (go_at_call 26; refine (hn _).mono ?_; rintro e w1 ⟨rfl, rfl⟩)
    go_ret
    exact ⟨by rw [HE.out]; rfl, hB _⟩
  | true =>
    rw [h1] at hn
    have h2 : (1 ≤ r ∧ r ≤ 20 ∧ 1 ≤ b ∧ b ≤ 40) ∨ (r < 1) ∨ (1 ≤ r ∧ 20 < r) ∨ (1 ≤ r ∧ r ≤ 20 ∧ b < 1) ∨ (1 ≤ r ∧ r ≤ 20 ∧ 1 ≤ b ∧ 40 < b) := by omega
    rcases h2 with ⟨q1, q2, q3, q4⟩ | h2
    · have HE : Hid (placeErr (a, r, b) = 0) := by
        show _ = _
        have : well r b = true := by unfold well; simp [q1, q2, q3, q4]
        unfold placeErr; simp only [h1, this]; rfl
      go_enter Tryz.func27, Tryz.ntmps27
      go_wp2_with (go_at_call 26; refine (hn _).mono ?_; rintro e w1 ⟨rfl, rfl⟩)
      go_ret
      exact ⟨by rw [HE.out]; rfl, hB _⟩
    · have HE : Hid (placeErr (a, r, b) = 2) := by
        show _ = _
        have : well r b = false := by unfold well; simp; omega
        unfold placeErr; simp only [h1, this]; rfl
      rcases h2 with h2 | ⟨q1, q2⟩ | ⟨q1, q2, q3⟩ | ⟨q1, q2, q3, q4⟩
      all_goals
        go_enter Tryz.func27, Tryz.ntmps27
        go_wp2_with (go_at_call 26; refine (hn _).mono ?_; rintro e w1 ⟨rfl, rfl⟩)
        go_ret
        exact ⟨by rw [HE.out]; rfl, hB _⟩

end Go.Proofs.YtgdhfipbbijngaaGreatDoor
