/-
  What plain.Code tells of nil, of a sentinel of package api, of another error of errors.New, of an api.Fault; conditions: the sentinels' variables and errors.errorType as the program lays them.
-/
import Derived.Test.YtefkchmahcjleaaDoorErrs
import Derived.Test.YtefkchmahcjleaaDoorErrsIs
namespace Go.Proofs.YtefkchmahcjleaaDoor
open Go.RowKit Go.Extern.Stop Go.Stop Go.Extern

abbrev err (a : Addr) : Value := .iface 119 (.pointer (some a))
def gOf (i : Nat) : Nat := [3, 1, 0, 4, 5, 6, 7, 8, 2, 9, 10, 11].getD i 0
/-- The twelve sentinels' variables hold twelve pointers, none twice. -/
structure Sent (w : World) (s : Nat → Addr) : Prop where
  cell : ∀ i, i < 12 → w.cell? ⟨gOf i, 0, none⟩ = some (err (s i))
  block : ∀ i, i < 12 → ∃ c t, w.heap[(s i).block]? = some (.cells c t (0, 0))
  inj : ∀ i j, i < 12 → j < 12 → s i = s j → i = j
/-- The variable errors.errorType is laid. -/
def Handle (w : World) : Prop := w.cell? ⟨12, 0, none⟩ = some (.iface 95 (.agg #[.pointer (some ⟨17, 29, none⟩)]))

theorem block_lt {w : World} {b : Nat} {o : Obj} (h : w.heap[b]? = some o) : b < w.heap.size := by
  rcases Nat.lt_or_ge b w.heap.size with h' | h'
  · exact h'
  · simp [Array.getElem?_eq_none h'] at h
theorem Sent.below {w w' : World} {s : Nat → Addr} (h : Sent w s) (hb : Below w.heap.size w w') : Sent w' s where
  cell i hi := by rw [hb.cell (p := ⟨gOf i, 0, none⟩) (cell_lt (h.cell i hi))]; exact h.cell i hi
  block i hi := by
    obtain ⟨c, t, hc⟩ := h.block i hi
    exact ⟨c, t, by rw [hb.block _ (block_lt hc)]; exact hc⟩
  inj := h.inj
theorem Sent.cells {w : World} {s : Nat → Addr} (h : Sent w s) : w.cell? ⟨3, 0, none⟩ = some (err (s 0)) ∧ w.cell? ⟨1, 0, none⟩ = some (err (s 1)) ∧ w.cell? ⟨0, 0, none⟩ = some (err (s 2)) ∧ w.cell? ⟨4, 0, none⟩ = some (err (s 3)) ∧ w.cell? ⟨5, 0, none⟩ = some (err (s 4)) ∧ w.cell? ⟨6, 0, none⟩ = some (err (s 5)) ∧ w.cell? ⟨7, 0, none⟩ = some (err (s 6)) ∧ w.cell? ⟨8, 0, none⟩ = some (err (s 7)) ∧ w.cell? ⟨2, 0, none⟩ = some (err (s 8)) ∧ w.cell? ⟨9, 0, none⟩ = some (err (s 9)) ∧ w.cell? ⟨10, 0, none⟩ = some (err (s 10)) ∧ w.cell? ⟨11, 0, none⟩ = some (err (s 11)) :=
  ⟨h.cell 0 (by decide), h.cell 1 (by decide), h.cell 2 (by decide), h.cell 3 (by decide), h.cell 4 (by decide), h.cell 5 (by decide), h.cell 6 (by decide), h.cell 7 (by decide), h.cell 8 (by decide), h.cell 9 (by decide), h.cell 10 (by decide), h.cell 11 (by decide)⟩
theorem Handle.below {w w' : World} (h : Handle w) (hb : Below w.heap.size w w') : Handle w' := by
  unfold Handle at *
  rw [hb.cell (p := ⟨12, 0, none⟩) (cell_lt h)]; exact h

theorem code_nil (w : World) : Calls Tryd.prog 24 #[.nilIface] w fun e w' => e = .returned (.tuple #[.int .i64 0, .int .i64 (-1)]) ∧ w' = w := by
  go_enter Tryd.func24, Tryd.ntmps24
  go_wp2
  go_ret2
  exact ⟨rfl, rfl⟩

set_option maxHeartbeats 1000000 in
theorem code_err (a : Addr) (w : World) (s : Nat → Addr) (hs : Sent w s) (hh : Handle w) (ca : Array Value) (ta : TypeId) (ha : w.heap[a.block]? = some (.cells ca ta (0, 0))) :
    Calls Tryd.prog 24 #[err a] w fun e w' => (∃ c : Int, e = .returned (.tuple #[.int .i64 c, .int .i64 (-1)]) ∧ ((∃ i, i < 12 ∧ s i = a ∧ c = i + 1) ∨ ((∀ i, i < 12 → s i ≠ a) ∧ c = -1))) ∧ Below w.heap.size w w' := by
  have hsz := cell_lt hh
  have hA : ∀ t, Calls Tryd.prog 30 #[err a, .iface 65 (.pointer (some t))] (w.alloc (.cells #[.pointer none] 63)) fun ev w' => ev = .returned (.bool false) ∧ Below (w.alloc (.cells #[.pointer none] 63)).heap.size (w.alloc (.cells #[.pointer none] 63)) w' := fun t => by
    refine (as_miss a t _ (hh.below (Below.refl _ _ |>.alloc (Nat.le_refl _) _))).mono ?_
    rintro e w' ⟨rfl, rfl⟩
    exact ⟨rfl, (((Below.refl _ _).alloc (by simp) _).alloc (by simp) _).alloc (by simp) _⟩
  go_enter Tryd.func24, Tryd.ntmps24
  go_wp2_with (go_at_call 30; refine (hA _).mono ?_; rintro e w1 ⟨rfl, hb⟩; have hb0 : Below w.heap.size w w1 := ((Below.refl _ _).alloc (Nat.le_refl _) _).trans (hb.mono (by simp)); obtain ⟨c0, c1, c2, c3, c4, c5, c6, c7, c8, c9, c10, c11⟩ := (hs.below hb0).cells)
  have hs2 : Sent (w1.alloc (.cells #[err (s 0), err (s 1), err (s 2), err (s 3), err (s 4), err (s 5), err (s 6), err (s 7), err (s 8), err (s 9), err (s 10), err (s 11)] 29)) s := (hs.below hb0).below ((Below.refl _ _).alloc (Nat.le_refl _) _)
  have hb2 : Below w.heap.size w (w1.alloc (.cells #[err (s 0), err (s 1), err (s 2), err (s 3), err (s 4), err (s 5), err (s 6), err (s 7), err (s 8), err (s 9), err (s 10), err (s 11)] 29)) := hb0.alloc hb0.size _
  have hk2 : ∀ k, k < 12 → (w1.alloc (.cells #[err (s 0), err (s 1), err (s 2), err (s 3), err (s 4), err (s 5), err (s 6), err (s 7), err (s 8), err (s 9), err (s 10), err (s 11)] 29)).cell? ⟨w1.heap.size, k, none⟩ = some (err (s k)) := fun k hk => by
    rcases k with _ | _ | _ | _ | _ | _ | _ | _ | _ | _ | _ | _ | k <;> first | omega | simp
  have ha2 : (w1.alloc (.cells #[err (s 0), err (s 1), err (s 2), err (s 3), err (s 4), err (s 5), err (s 6), err (s 7), err (s 8), err (s 9), err (s 10), err (s 11)] 29)).heap[a.block]? = some (.cells ca ta (0, 0)) := by rw [hb2.block _ (block_lt ha)]; exact ha
  clear c0 c1 c2 c3 c4 c5 c6 c7 c8 c9 c10 c11 hb hA
  generalize (w1.alloc (.cells #[err (s 0), err (s 1), err (s 2), err (s 3), err (s 4), err (s 5), err (s 6), err (s 7), err (s 8), err (s 9), err (s 10), err (s 11)] 29)) = W2 at hs2 hb2 hk2 ha2 ⊢
  go_loop [3, 30] (fun c i => ∃ k : Nat, k ≤ 12 ∧ c = .int .i64 (-1) ∧ i = .int .i64 k ∧ ∀ j, j < k → s j ≠ a) (fun _ i => 12 - (intOf i).toNat)
  case atStart => exact ⟨0, by omega, rfl, rfl, fun j hj => by omega⟩
  case round =>
    obtain ⟨k, hk, rfl, rfl, hno⟩ := hrel
    by_cases hlt : k < 12
    · have hck := hk2 k hlt
      obtain ⟨cb, tb, hbk⟩ := hs2.block k hlt
      by_cases he : s k = a
      · go_wp2_with (go_at_call 31; refine (is_same a _).mono ?_; rintro e w' ⟨rfl, rfl⟩)
        go_ret2
        exact ⟨⟨_, rfl, Or.inl ⟨k, hlt, he, rfl⟩⟩, hb2⟩
      · go_wp2_with (go_at_call 31; refine (is_other a (s k) ca cb ta tb _ (fun h => he h.symm) ha2 hbk).mono ?_; rintro e w' ⟨rfl, rfl⟩)
        go_round
        case rel => exact ⟨k + 1, by omega, rfl, by go_num, fun j hj => by
          rcases Nat.lt_succ_iff_lt_or_eq.1 hj with h | rfl
          · exact hno j h
          · exact he⟩
        case measure => simp [intOf]; omega
    · go_wp2
      go_ret2
      exact ⟨⟨_, rfl, Or.inr ⟨fun i hi => hno i (by omega), rfl⟩⟩, hb2⟩

set_option maxHeartbeats 1000000 in
theorem code_fault (pb po : Nat) (n : Int) (a : Addr) (w : World) (s : Nat → Addr) (hs : Sent w s) (hh : Handle w) (hn : w.cell? ⟨pb, po, none⟩ = some (.int .i64 n)) (he : w.cell? ⟨pb, po + 1, none⟩ = some (err a)) (ca : Array Value) (ta : TypeId) (ha : w.heap[a.block]? = some (.cells ca ta (0, 0))) :
    Calls Tryd.prog 24 #[.iface 63 (.pointer (some ⟨pb, po, none⟩))] w fun e w' => (∃ c : Int, e = .returned (.tuple #[.int .i64 c, .int .i64 n]) ∧ ((∃ i, i < 12 ∧ s i = a ∧ c = i + 1) ∨ ((∀ i, i < 12 → s i ≠ a) ∧ c = -1))) ∧ Below w.heap.size w w' := by
  have hsz := cell_lt hh
  have hlt := cell_lt hn
  have hA : Calls Tryd.prog 30 #[.iface 63 (.pointer (some ⟨pb, po, none⟩)), .iface 65 (.pointer (some ⟨w.heap.size, 0, none⟩))] (w.alloc (.cells #[.pointer none] 63)) fun ev w' => ev = .returned (.bool true) ∧ Below w.heap.size w w' ∧ w'.cell? ⟨w.heap.size, 0, none⟩ = some (.pointer (some ⟨pb, po, none⟩)) := by
    refine (as_hit ⟨pb, po, none⟩ ⟨w.heap.size, 0, none⟩ (.pointer none) _ (hh.below (Below.refl _ _ |>.alloc (Nat.le_refl _) _)) (by simp) (by simp)).mono ?_
    rintro e w' ⟨rfl, rfl⟩
    refine ⟨rfl, (((((((Below.refl _ _).alloc (Nat.le_refl _) _).alloc (by simp) _).alloc (by simp; omega) _).alloc (by simp; omega) _).alloc (by simp; omega) _).setCell (by simp) _), ?_⟩
    exact World.cell?_setCell_same _ _ _ (u := .pointer none) (by rw [World.cell?_alloc_lt _ _ ⟨w.heap.size, 0, none⟩ (by simp; omega), World.cell?_alloc_lt _ _ ⟨w.heap.size, 0, none⟩ (by simp; omega), World.cell?_alloc_lt _ _ ⟨w.heap.size, 0, none⟩ (by simp; omega), World.cell?_alloc_lt _ _ ⟨w.heap.size, 0, none⟩ (by simp)]; simp)
  go_enter Tryd.func24, Tryd.ntmps24
  go_wp2_with (go_at_call 30; refine hA.mono ?_; rintro e w1 ⟨rfl, hb0, hf⟩; have hn1 := (hb0.cell (p := ⟨pb, po, none⟩) hlt).trans hn; obtain ⟨c0, c1, c2, c3, c4, c5, c6, c7, c8, c9, c10, c11⟩ := (hs.below hb0).cells)
  have hs2 : Sent (w1.alloc (.cells #[err (s 0), err (s 1), err (s 2), err (s 3), err (s 4), err (s 5), err (s 6), err (s 7), err (s 8), err (s 9), err (s 10), err (s 11)] 29)) s := (hs.below hb0).below ((Below.refl _ _).alloc (Nat.le_refl _) _)
  have hb2 : Below w.heap.size w (w1.alloc (.cells #[err (s 0), err (s 1), err (s 2), err (s 3), err (s 4), err (s 5), err (s 6), err (s 7), err (s 8), err (s 9), err (s 10), err (s 11)] 29)) := hb0.alloc hb0.size _
  have hk2 : ∀ k, k < 12 → (w1.alloc (.cells #[err (s 0), err (s 1), err (s 2), err (s 3), err (s 4), err (s 5), err (s 6), err (s 7), err (s 8), err (s 9), err (s 10), err (s 11)] 29)).cell? ⟨w1.heap.size, k, none⟩ = some (err (s k)) := fun k hk => by
    rcases k with _ | _ | _ | _ | _ | _ | _ | _ | _ | _ | _ | _ | k <;> first | omega | simp
  have ha2 : (w1.alloc (.cells #[err (s 0), err (s 1), err (s 2), err (s 3), err (s 4), err (s 5), err (s 6), err (s 7), err (s 8), err (s 9), err (s 10), err (s 11)] 29)).heap[a.block]? = some (.cells ca ta (0, 0)) := by rw [hb2.block _ (block_lt ha)]; exact ha
  have he2 : (w1.alloc (.cells #[err (s 0), err (s 1), err (s 2), err (s 3), err (s 4), err (s 5), err (s 6), err (s 7), err (s 8), err (s 9), err (s 10), err (s 11)] 29)).cell? ⟨pb, po + 1, none⟩ = some (err a) := (hb2.cell (p := ⟨pb, po + 1, none⟩) hlt).trans he
  clear c0 c1 c2 c3 c4 c5 c6 c7 c8 c9 c10 c11 hA he hn hn1 hf hb0
  generalize (w1.alloc (.cells #[err (s 0), err (s 1), err (s 2), err (s 3), err (s 4), err (s 5), err (s 6), err (s 7), err (s 8), err (s 9), err (s 10), err (s 11)] 29)) = W2 at hs2 hb2 hk2 ha2 he2 ⊢
  go_loop [3, 30] (fun c i => ∃ k : Nat, k ≤ 12 ∧ c = .int .i64 n ∧ i = .int .i64 k ∧ ∀ j, j < k → s j ≠ a) (fun _ i => 12 - (intOf i).toNat)
  case atStart => exact ⟨0, by omega, rfl, rfl, fun j hj => by omega⟩
  case round =>
    obtain ⟨k, hk, rfl, rfl, hno⟩ := hrel
    by_cases hlt : k < 12
    · have hck := hk2 k hlt
      obtain ⟨cb, tb, hbk⟩ := hs2.block k hlt
      by_cases heq : s k = a
      · go_wp2_with (go_at_call 31; refine (is_wrap_same pb po a _ he2).mono ?_; rintro e w' ⟨rfl, rfl⟩)
        go_ret2
        exact ⟨⟨_, rfl, Or.inl ⟨k, hlt, heq, rfl⟩⟩, hb2⟩
      · go_wp2_with (go_at_call 31; refine (is_wrap_other pb po (s k) a ca cb ta tb _ he2 (fun h => heq h.symm) ha2 hbk).mono ?_; rintro e w' ⟨rfl, rfl⟩)
        go_round
        case rel => exact ⟨k + 1, by omega, rfl, by go_num, fun j hj => by
          rcases Nat.lt_succ_iff_lt_or_eq.1 hj with h | rfl
          · exact hno j h
          · exact heq⟩
        case measure => simp [intOf]; omega
    · go_wp2
      go_ret2
      exact ⟨⟨_, rfl, Or.inr ⟨fun i hi => hno i (by omega), rfl⟩⟩, hb2⟩

/-- At a sentinel. -/
theorem code_sent (i : Nat) (hi : i < 12) (w : World) (s : Nat → Addr) (hs : Sent w s) (hh : Handle w) :
    Calls Tryd.prog 24 #[err (s i)] w fun e w' => e = .returned (.tuple #[.int .i64 (i + 1 : Nat), .int .i64 (-1)]) ∧ Below w.heap.size w w' := by
  obtain ⟨ca, ta, ha⟩ := hs.block i hi
  refine (code_err (s i) w s hs hh ca ta ha).mono ?_
  rintro e w' ⟨⟨c, rfl, ⟨j, hj, hij, rfl⟩ | ⟨hno, rfl⟩⟩, hb⟩
  · obtain rfl := hs.inj j i hj hi hij
    exact ⟨by simp, hb⟩
  · exact absurd rfl (hno i hi)
/-- At another error of errors.New. -/
theorem code_new (a : Addr) (w : World) (s : Nat → Addr) (hs : Sent w s) (hh : Handle w) (ca : Array Value) (ta : TypeId) (ha : w.heap[a.block]? = some (.cells ca ta (0, 0))) (hno : ∀ i, i < 12 → s i ≠ a) :
    Calls Tryd.prog 24 #[err a] w fun e w' => e = .returned (.tuple #[.int .i64 (-1), .int .i64 (-1)]) ∧ Below w.heap.size w w' := by
  refine (code_err a w s hs hh ca ta ha).mono ?_
  rintro e w' ⟨⟨c, rfl, ⟨j, hj, hij, rfl⟩ | ⟨_, rfl⟩⟩, hb⟩
  · exact absurd hij (hno j hj)
  · exact ⟨rfl, hb⟩
/-- At a fault that wraps a sentinel. -/
theorem code_fault_sent (pb po : Nat) (n : Int) (i : Nat) (hi : i < 12) (w : World) (s : Nat → Addr) (hs : Sent w s) (hh : Handle w) (hn : w.cell? ⟨pb, po, none⟩ = some (.int .i64 n)) (he : w.cell? ⟨pb, po + 1, none⟩ = some (err (s i))) :
    Calls Tryd.prog 24 #[.iface 63 (.pointer (some ⟨pb, po, none⟩))] w fun e w' => e = .returned (.tuple #[.int .i64 (i + 1 : Nat), .int .i64 n]) ∧ Below w.heap.size w w' := by
  obtain ⟨ca, ta, ha⟩ := hs.block i hi
  refine (code_fault pb po n (s i) w s hs hh hn he ca ta ha).mono ?_
  rintro e w' ⟨⟨c, rfl, ⟨j, hj, hij, rfl⟩ | ⟨hno, rfl⟩⟩, hb⟩
  · obtain rfl := hs.inj j i hj hi hij
    exact ⟨by simp, hb⟩
  · exact absurd rfl (hno i hi)

end Go.Proofs.YtefkchmahcjleaaDoor
