/-
  Lines in a row: what their cells hold; a row that is owned; a world that has grown.
-/
import Derived.Test.YtcipbkaopnaiiabGreatDoorKOf
import Derived.OwnWalk
import Derived.Shelf.SlSortCmp.WholeK
namespace Go.Proofs.YtcipbkaopnaiiabGreatDoor
open Go.RowKit Go.Lib Go.Sort

/-- A line's cells, a line as a value. -/
def encN (l : Ln) : List Value := [.string l.1.1, .int .i64 l.1.2.1, .int .i64 l.1.2.2, .string l.2.1, .int .i64 l.2.2]
abbrev agN (l : Ln) : Value := .agg #[.string l.1.1, .int .i64 l.1.2.1, .int .i64 l.1.2.2, .string l.2.1, .int .i64 l.2.2]
theorem Tryz.infoLn : (Tryz.prog.info? 69).map (fun i => (i.zero, i.size, i.bytes)) = some (some (.agg #[.string ⟨#[]⟩, .int .i64 0, .int .i64 0, .string ⟨#[]⟩, .int .i64 0]), 5, 56) := by kernel_rfl
theorem encN_len (x : Ln) : (encN x).length = 5 := rfl
theorem encN_one (x : Ln) : ∀ v ∈ encN x, v.oneCell' = true := by
  intro v hv; simp [encN] at hv; rcases hv with rfl | rfl | rfl | rfl | rfl <;> rfl
/-- The cells of lines. -/
def flatN (m : List Ln) : List Value := m.flatMap encN
theorem flatN_nil : flatN [] = [] := rfl
theorem flatN_snoc (m : List Ln) (l : Ln) : flatN (m ++ [l]) = flatN m ++ encN l := by unfold flatN; rw [List.flatMap_append]; simp
theorem flatN_len (m : List Ln) : (flatN m).length = m.length * 5 := by
  unfold flatN
  induction m with
  | nil => rfl
  | cons l m ih => rw [List.flatMap_cons, List.length_append, ih, encN_len, List.length_cons]; omega
theorem flatN_one (m : List Ln) : ∀ v ∈ flatN m, v.oneCell' = true := by
  intro v hv
  unfold flatN at hv
  obtain ⟨l, _, h⟩ := List.mem_flatMap.1 hv
  exact encN_one l v h
theorem flatN_get : ∀ {m : List Ln} {i : Nat} {l : Ln} (c : Nat), m[i]? = some l → c < 5 → (flatN m)[i * 5 + c]? = (encN l)[c]?
  | [], i, l, c, h, hc => by simp at h
  | x :: m, 0, l, c, h, hc => by
    obtain rfl : x = l := by simpa using h
    unfold flatN
    rw [List.flatMap_cons, List.getElem?_append_left (by rw [encN_len]; omega)]
    simp
  | x :: m, i + 1, l, c, h, hc => by
    have h' : m[i]? = some l := by simpa using h
    have ih := flatN_get (m := m) c h' hc
    unfold flatN at *
    rw [List.flatMap_cons, List.getElem?_append_right (by rw [encN_len]; omega), encN_len, ← ih]
    congr 1
    omega
/-- A line lies at an offset of a block. -/
structure LineAt (w : World) (g o : Nat) (l : Ln) : Prop where
  c0 : w.cell? ⟨g, o, none⟩ = some (.string l.1.1)
  c1 : w.cell? ⟨g, o + 1, none⟩ = some (.int .i64 l.1.2.1)
  c2 : w.cell? ⟨g, o + 2, none⟩ = some (.int .i64 l.1.2.2)
  c3 : w.cell? ⟨g, o + 3, none⟩ = some (.string l.2.1)
  c4 : w.cell? ⟨g, o + 4, none⟩ = some (.int .i64 l.2.2)
theorem LineAt.of_block {w w' : World} {g o : Nat} {l : Ln} (h : LineAt w g o l) (hb : w'.heap[g]? = w.heap[g]?) : LineAt w' g o l where
  c0 := (World.cell?_of_block (a := ⟨g, o, none⟩) hb).trans h.c0
  c1 := (World.cell?_of_block (a := ⟨g, o + 1, none⟩) hb).trans h.c1
  c2 := (World.cell?_of_block (a := ⟨g, o + 2, none⟩) hb).trans h.c2
  c3 := (World.cell?_of_block (a := ⟨g, o + 3, none⟩) hb).trans h.c3
  c4 := (World.cell?_of_block (a := ⟨g, o + 4, none⟩) hb).trans h.c4
theorem LineAt.lt {w : World} {g o : Nat} {l : Ln} (h : LineAt w g o l) : g < w.heap.size := cell_lt h.c0
theorem LineAt.below {w w' : World} {g o : Nat} {l : Ln} (h : LineAt w g o l) (hb : Below w.heap.size w w') : LineAt w' g o l := h.of_block (hb.block g h.lt)
theorem LineAt.new (w : World) (l : Ln) (t n : Nat) (hn : n = w.heap.size) : LineAt (w.alloc (.cells #[.string l.1.1, .int .i64 l.1.2.1, .int .i64 l.1.2.2, .string l.2.1, .int .i64 l.2.2] t)) n 0 l where
  c0 := by rw [World.cell?_alloc_at _ _ _ _ hn]; rfl
  c1 := by rw [World.cell?_alloc_at _ _ _ _ hn]; rfl
  c2 := by rw [World.cell?_alloc_at _ _ _ _ hn]; rfl
  c3 := by rw [World.cell?_alloc_at _ _ _ _ hn]; rfl
  c4 := by rw [World.cell?_alloc_at _ _ _ _ hn]; rfl
/-- Lines lie in a row. -/
def RowN (w : World) (g : Nat) (m : List Ln) : Prop := ∀ i l, m[i]? = some l → LineAt w g (i * 5) l
theorem RowN.below {w w' : World} {g : Nat} {m : List Ln} (h : RowN w g m) (hb : Below w.heap.size w w') : RowN w' g m := fun i l hi => (h i l hi).below hb
theorem RowN.of_block {w w' : World} {g : Nat} {m : List Ln} (h : RowN w g m) (hb : w'.heap[g]? = w.heap[g]?) : RowN w' g m := fun i l hi => (h i l hi).of_block hb
theorem RowN.of_cells {w : World} {g : Nat} {m : List Ln} (h : ∀ j v, (flatN m)[j]? = some v → w.cell? ⟨g, j, none⟩ = some v) : RowN w g m := fun i l hi =>
  { c0 := h _ _ (flatN_get 0 hi (by decide)), c1 := h _ _ (flatN_get 1 hi (by decide)), c2 := h _ _ (flatN_get 2 hi (by decide)), c3 := h _ _ (flatN_get 3 hi (by decide)), c4 := h _ _ (flatN_get 4 hi (by decide)) }
theorem own_cells {w : World} {base g cap n : Nat} {m : List Ln} (h : w.ownsRow base 69 5 (.slice (some ⟨g, 0, none⟩) n cap) n (flatN m)) : ∀ j v, (flatN m)[j]? = some v → w.cell? ⟨g, j, none⟩ = some v := by
  intro j v hj
  have := h.cells (g := g) rfl j v hj
  rw [Go.WideShapes.add_plain] at this
  simpa using this
theorem own_rowN {w : World} {base g cap n : Nat} {m : List Ln} (h : w.ownsRow base 69 5 (.slice (some ⟨g, 0, none⟩) n cap) n (flatN m)) : RowN w g m := RowN.of_cells (own_cells h)
/-- .. as the sort's contract reads them. -/
theorem flat_array (m : List Ln) : (flatK encN 5 m.toArray).toList = flatN m := by
  apply List.ext_getElem?
  intro j
  by_cases hj : j < m.length * 5
  · have hi : j / 5 < m.length := by omega
    have h1 : m[j / 5]? = some m[j / 5] := List.getElem?_eq_getElem hi
    have h2 := flatN_get (j % 5) h1 (by omega)
    rw [show j / 5 * 5 + j % 5 = j by omega] at h2
    rw [h2, Array.getElem?_toList, Array.getElem?_eq_getElem (by rw [size_flatK]; simpa using hj)]
    have h3 := get_flatK encN 5 m.toArray j (by simpa using hj)
    rw [getElem!_pos _ j (by rw [size_flatK]; simpa using hj)] at h3
    rw [h3, getElem!_pos m.toArray (j / 5) (by simpa using hi), List.getElem_toArray, getElem!_pos _ (j % 5) (by rw [encN_len]; omega), List.getElem?_eq_getElem (by rw [encN_len]; omega)]
  · rw [List.getElem?_eq_none (l := flatN m) (by rw [flatN_len]; omega), List.getElem?_eq_none (by rw [Array.length_toList, size_flatK]; simpa using hj)]
theorem own_holdsN {w : World} {base g cap : Nat} {m : List Ln} (h : w.ownsRow base 69 5 (.slice (some ⟨g, 0, none⟩) m.length cap) m.length (flatN m)) : HoldsK encN 5 w g 0 m.toArray := by
  intro j hj
  have hj' : j < m.length * 5 := by rw [size_flatK] at hj; simpa using hj
  refine ⟨?_, ?_⟩
  · rw [Nat.zero_add]
    refine own_cells h j _ ?_
    rw [← flat_array, Array.getElem?_toList, Array.getElem?_eq_getElem hj, getElem!_pos _ j hj]; rfl
  · rw [Nat.zero_add]; exact h.frozenAt j
theorem rowN_holds {w : World} {g : Nat} {d : Array Ln} {m : List Ln} (hd : d.toList = m) (h : HoldsK encN 5 w g 0 d) : RowN w g m := by
  subst hd
  refine RowN.of_cells fun j v hj => ?_
  rw [← flat_array, Array.toArray_toList] at hj
  have hlt : j < (flatK encN 5 d).size := by
    have := (List.getElem?_eq_some_iff.1 hj).1
    simpa using this
  have := (h j hlt).1
  rw [Nat.zero_add, getElem!_pos _ j hlt] at this
  rw [this]
  rw [Array.getElem?_toList, Array.getElem?_eq_getElem hlt] at hj
  exact hj
/-- A sorted arrangement of the lines of a stock is the stock. -/
theorem sorted_is {m d : List Ln} {d' : Array Ln} (hw : Sorted m) (hp : d.Perm m) (hq : PermIn 0 d.length d.toArray d') (hs : SortedIn aheadN 0 d.length d') : d'.toList = m := by
  obtain ⟨h1, _, h3⟩ := hq
  have hsz : d'.size = d.length := by simpa using h1
  have e1 : (d'.extract 0 d.length).toList = d'.toList := by
    rw [Array.toList_extract, ← hsz]; simp [List.take_of_length_le]
  have e2 : (d.toArray.extract 0 d.length).toList = d := by simp
  rw [e1, e2] at h3
  have hpm : d'.toList.Perm m := h3.trans hp
  refine sorted_perm_eq ?_ hw hpm
  have hk : (d'.toList.map keyL).Nodup := (hpm.map keyL).nodup_iff.2 hw.keys
  unfold Sorted
  rw [List.pairwise_iff_getElem]
  intro i j hi hj hij
  have hj' : j < d'.size := by simpa using hj
  have hi' : i < d'.size := by simpa using hi
  have := hs i j (Nat.zero_le _) hij (by omega)
  rw [getElem!_pos d' j hj', getElem!_pos d' i hi'] at this
  simp only [Array.getElem_toList]
  refine aheadK_total this ?_
  intro e
  unfold List.Nodup at hk
  rw [List.pairwise_map, List.pairwise_iff_getElem] at hk
  exact hk i j hi hj hij (by simpa using e.symm)
theorem below_sortN {B : Nat} (w : World) (blk off n : Nat) (d : Array Ln) (os : Array Obj) (hB : B ≤ w.heap.size) (hb : B ≤ blk) : Below B w (sortWorldK encN 5 w blk off n d os) := by
  refine ⟨rfl, rfl, rfl, ?_, fun k hk => ?_⟩
  · unfold sortWorldK; rw [size_grow, size_putRowK]; simp
  · unfold sortWorldK
    rw [heap_grow_old _ _ (by rw [size_putRowK]; simp; omega)]
    show (w.heap.modify blk _)[k]? = _
    rw [Array.getElem?_modify, if_neg (by omega)]
/-! ### a world that has grown -/
def Grew (w w' : World) : Prop := ∃ q os, w' = grow (w.drewN q) os
theorem Grew.refl (w : World) : Grew w w := ⟨0, #[], by rw [grow_empty]; rfl⟩
theorem Grew.drew {w w' : World} (h : Grew w w') : Grew w w'.drew := by
  obtain ⟨q, os, rfl⟩ := h
  exact ⟨q + 1, os, rfl⟩
theorem Grew.trans {w w' w'' : World} (h : Grew w w') (k : Grew w' w'') : Grew w w'' := by
  obtain ⟨q, os, rfl⟩ := h
  obtain ⟨q', os', rfl⟩ := k
  refine ⟨q + q', os ++ os', ?_⟩
  rw [← grow_grow]
  simp [grow, World.drewN, Nat.add_assoc]
theorem Grew.alloc {w w' : World} (h : Grew w w') (o : Obj) : Grew w (w'.alloc o) := h.trans ⟨0, #[o], by rw [alloc_eq_grow]; rfl⟩
theorem Grew.below {w w' : World} (h : Grew w w') : Below w.heap.size w w' := by
  obtain ⟨q, os, rfl⟩ := h
  exact below_grow w q os
theorem Grew.keep {w w' : World} (h : Grew w w') {a : Addr} {v : Value} (hc : w.cell? a = some v) : w'.cell? a = some v := by
  rw [h.below.cell (cell_lt hc)]; exact hc
end Go.Proofs.YtcipbkaopnaiiabGreatDoor
