/-
  The reference's layers in memory: a slice of layers in a row of its own; what its Has and Worth answer.
-/
import Derived.Test.YtefkchmahcjleaaDoorCoV
import Derived.OwnWalk
import Derived.Lib.SmallJoins
namespace Go.Proofs.YtefkchmahcjleaaDoor
open Go.RowKit Go.Lib

def encY (x : Ly) : List Value := [.int .i64 x.1, .int .i64 x.2]
def flatY (m : List Ly) : List Value := m.flatMap encY
theorem flatY_app (a b : List Ly) : flatY (a ++ b) = flatY a ++ flatY b := by unfold flatY; rw [List.flatMap_append]
theorem flatY_one (x : Ly) : flatY [x] = encY x := by unfold flatY; simp
theorem flatY_len (m : List Ly) : (flatY m).length = m.length * 2 := by
  unfold flatY
  induction m with
  | nil => rfl
  | cons x m ih => rw [List.flatMap_cons, List.length_append, ih, List.length_cons]; simp [encY]; omega
theorem flatY_get : ∀ {m : List Ly} {i : Nat} {x : Ly} (c : Nat), m[i]? = some x → c < 2 → (flatY m)[i * 2 + c]? = (encY x)[c]?
  | [], i, x, c, h, hc => by simp at h
  | y :: m, 0, x, c, h, hc => by
    obtain rfl : y = x := by simpa using h
    unfold flatY
    rw [List.flatMap_cons, List.getElem?_append_left (by show _ < 2; omega)]
    simp
  | y :: m, i + 1, x, c, h, hc => by
    have h' : m[i]? = some x := by simpa using h
    have ih := flatY_get (m := m) c h' hc
    unfold flatY at *
    rw [List.flatMap_cons, List.getElem?_append_right (by show 2 ≤ _; omega), ← ih]
    congr 1
    show (i + 1) * 2 + c - 2 = _
    omega
def RowY (w : World) (B : Nat) (v : Value) (m : List Ly) : Prop := w.ownsRow B 57 2 v m.length (flatY m)
theorem RowY.forms {w : World} {B : Nat} {v : Value} {m : List Ly} (h : RowY w B v m) :
    (v = .slice none 0 0 ∧ m = []) ∨ ∃ g cap, v = .slice (some ⟨g, 0, none⟩) m.length cap ∧ B ≤ g ∧ g < w.heap.size ∧ (∃ c, w.heap[g]? = some (.cells c 57 (0, 0))) ∧ ∀ i x, m[i]? = some x → w.cell? ⟨g, i * 2, none⟩ = some (.int .i64 x.1) ∧ w.cell? ⟨g, i * 2 + 1, none⟩ = some (.int .i64 x.2) := by
  have h0 := h
  rcases h.2 with ⟨h1, h2⟩ | ⟨g, cap, cur, rfl, hb, hg, hle, -, -, -⟩
  · exact Or.inl ⟨h1, List.eq_nil_of_length_eq_zero h2⟩
  · refine Or.inr ⟨g, cap, rfl, hb, (Array.getElem?_eq_some_iff.1 hg).1, ⟨_, hg⟩, fun i x hx => ?_⟩
    have hi := (List.getElem?_eq_some_iff.1 hx).1
    have key : ∀ c, c < 2 → w.cell? ⟨g, i * 2 + c, none⟩ = (encY x)[c]? := fun c hc => by
      rw [World.ownsRow.cellAt h0 (i * 2 + c) (by omega)]
      exact flatY_get c hx hc
    exact ⟨key 0 (by decide), key 1 (by decide)⟩
theorem RowY.kept {w w' : World} {B : Nat} {v : Value} {m : List Ly} (h : RowY w B v m) (hb : ∀ g, v.ownBlock = some g → w'.heap[g]? = w.heap[g]?) : RowY w' B v m := by
  refine ⟨h.1, ?_⟩
  rcases h.2 with h1 | ⟨g, cap, cur, rfl, h2, hg, h3⟩
  · exact Or.inl h1
  · exact Or.inr ⟨g, cap, cur, rfl, h2, (hb g rfl).trans hg, h3⟩
theorem RowY.lt {w : World} {B : Nat} {v : Value} {m : List Ly} (h : RowY w B v m) {g : Nat} (hg : v.ownBlock = some g) : B ≤ g ∧ g < w.heap.size := World.ownsRow.lt h g hg
theorem RowY.below {w w' : World} {B : Nat} {v : Value} {m : List Ly} (h : RowY w B v m) (hb : Below w.heap.size w w') : RowY w' B v m := h.kept fun g hg => hb.block g (h.lt hg).2
theorem RowY.kind {w : World} {B : Nat} {v : Value} {m : List Ly} (h : RowY w B v m) {g : Nat} (hg : v.ownBlock = some g) : ∃ c, w.heap[g]? = some (.cells c 57 (0, 0)) := by
  rcases h.2 with ⟨rfl, _⟩ | ⟨g', cap, cur, rfl, h2, hg', h3⟩
  · cases hg
  · cases hg
    exact ⟨_, hg'⟩
/-- The last layer's number is stored. -/
theorem RowY.setLast {w : World} {B g n cap : Nat} {m : List Ly} {x : Ly} (h : RowY w B (.slice (some ⟨g, 0, none⟩) n cap) (m ++ [x])) (z : Int) : RowY (w.setCell ⟨g, m.length * 2, none⟩ (.int .i64 z)) B (.slice (some ⟨g, 0, none⟩) n cap) (m ++ [(z, x.2)]) := by
  rcases h.2 with ⟨h1, _⟩ | ⟨g', cap', cur, hv, hB, hg, h3, h4, h5, h6⟩
  · cases h1
  · injection hv with a1 a2 a3
    injection a1 with a1
    injection a1 with a1
    subst a1 a2 a3
    refine ⟨by rw [flatY_len], Or.inr ⟨g, cap, cur.setIfInBounds (m.length * 2) (.int .i64 z), ?_, hB, Joins.block_setCell hg _, ?_, h4, ?_, ?_⟩⟩
    · simp
    · simpa using h3
    · rw [Array.size_setIfInBounds]; exact h5
    · have e : (m ++ [(z, x.2)]).length = (m ++ [x]).length := by simp
      rw [e, Array.toList_setIfInBounds, List.take_set, h6, flatY_app, flatY_app, flatY_one, flatY_one, List.set_append_right _ _ (by rw [flatY_len]; exact Nat.le_refl _), flatY_len, Nat.sub_self]
      rfl
/-- The reference's layers. -/
structure RefY (w : World) (B q : Nat) (m : List Ly) : Prop where
  ex : ∃ v, w.heap[q]? = some (.cells #[v] 39 (0, 0)) ∧ RowY w B v m
  lo : B ≤ q
theorem RefY.below {w w' : World} {B q : Nat} {m : List Ly} (h : RefY w B q m) (hb : Below w.heap.size w w') : RefY w' B q m := by
  obtain ⟨v, h1, h2⟩ := h.ex
  exact ⟨⟨v, (hb.block q (Array.getElem?_eq_some_iff.1 h1).1).trans h1, h2.below hb⟩, h.lo⟩
theorem RefY.lt {w : World} {B q : Nat} {m : List Ly} (h : RefY w B q m) : q < w.heap.size := by
  obtain ⟨v, h1, h2⟩ := h.ex
  exact (Array.getElem?_eq_some_iff.1 h1).1
theorem RefY.base {w : World} {B q : Nat} {m : List Ly} (h : RefY w B q m) : B ≤ w.heap.size := by have := h.lt; have := h.lo; omega
/-- Opened, over every later world. -/
theorem RefY.later {w : World} {B q : Nat} {m : List Ly} (h : RefY w B q m) : ∃ a c, w.heap[q]? = some (.cells #[.slice a m.length c] 39 (0, 0)) ∧ RowY w B (.slice a m.length c) m ∧ ∀ W, Below w.heap.size w W → W.cell? ⟨q, 0, none⟩ = some (.slice a m.length c) ∧
    ∀ i x, m[i]? = some x → ∃ g, a = some ⟨g, 0, none⟩ ∧ W.cell? ⟨g, i * 2, none⟩ = some (.int .i64 x.1) ∧ W.cell? ⟨g, i * 2 + 1, none⟩ = some (.int .i64 x.2) := by
  obtain ⟨v, h1, h2⟩ := h.ex
  rcases h2.forms with ⟨rfl, rfl⟩ | ⟨g, cap, rfl, hb, hlt, _, hc⟩
  · refine ⟨none, 0, h1, h2, fun W hb => ⟨cell_blk ((hb.block q h.lt).trans h1) 0, fun i x hx => by simp at hx⟩⟩
  · refine ⟨some ⟨g, 0, none⟩, cap, h1, h2, fun W hb => ⟨cell_blk ((hb.block q h.lt).trans h1) 0, fun i x hx => ⟨g, rfl, ?_, ?_⟩⟩⟩
    · exact (hb.cell (p := ⟨g, i * 2, none⟩) hlt).trans (hc i x hx).1
    · exact (hb.cell (p := ⟨g, i * 2 + 1, none⟩) hlt).trans (hc i x hx).2
theorem hasY_succ {m : List Ly} {j : Nat} {x : Ly} (h : m[j]? = some x) : hasY (m.take (j + 1)) = hasY (m.take j) + x.1 := by
  rw [List.take_add_one, h, hasY_app]
  show _ + hasY [x] = _
  rw [hasY_cons, hasY_nil]; omega
set_option maxHeartbeats 4000000 in
set_option maxRecDepth 100000 in
/-- The reference's Has. -/
theorem rhas_any (w : World) (B q : Nat) (m : List Ly) (h : RefY w B q m) (hok : LyOk m) (hlen : m.length ≤ 1000) :
    Calls Tryd.prog 15 #[ptrK q] w fun e w' => e = .returned (.int .i64 (hasY m)) ∧ Below w.heap.size w w' := by
  obtain ⟨a, c, _, _, hl⟩ := h.later
  have HL : Hid (∀ W, Below w.heap.size w W → _) := hl
  have HK : Hid (LyOk m) := hok
  obtain ⟨ln, hln⟩ : ∃ ln, ln = m.length := ⟨_, rfl⟩
  have HLn : Hid (ln = m.length) := hln
  rw [← hln] at hlen HL
  clear h hok hl hln
  go_enter Tryd.func15, Tryd.ntmps15
  go_wp2
  go_loopw [3, 4] (fun vs vi wr => ∃ j : Nat, j ≤ ln ∧ vi = .int .i64 j ∧ vs = .int .i64 (hasY (m.take j)) ∧ Below w.heap.size w wr) (fun _ vi _ => ln - (RowKit.intOf vi).toNat)
  case atStart => exact ⟨0, Nat.zero_le _, rfl, rfl, Below.refl _ _⟩
  case round =>
    obtain ⟨j, hj, rfl, rfl, hwr⟩ := hrel
    obtain ⟨c0, hc⟩ := HL.out wr hwr
    by_cases hlt : j < ln
    · obtain ⟨x, hx⟩ : ∃ x, m[j]? = some x := ⟨_, List.getElem?_eq_getElem (by rw [← HLn.out]; exact hlt)⟩
      obtain ⟨g, rfl, c1, c2⟩ := hc j x hx
      have HE : Hid (hasY (m.take (j + 1)) = hasY (m.take j) + x.1) := hasY_succ hx
      have b1 := hasY_take HK.out.pos j
      have b2 := hasY_take HK.out.pos (j + 1)
      have b3 := HK.out.most
      have b4 := (HK.out.pos x (List.mem_of_getElem? hx)).1
      rw [HE.out] at b2
      clear hx hc
      generalize hasY (m.take j) = S at *
      go_wp2
      go_roundw
      case rel => exact ⟨j + 1, by omega, by go_num, by rw [HE.out], hwr⟩
      case measure => simp [RowKit.intOf]; omega
    · have e : m.take j = m := List.take_of_length_le (by rw [← HLn.out]; omega)
      rw [e]
      clear hc
      go_wp2
      go_ret
      exact ⟨rfl, hwr⟩
set_option maxHeartbeats 4000000 in
set_option maxRecDepth 100000 in
/-- The reference's Worth. -/
theorem rworth_any (w : World) (B q : Nat) (m : List Ly) (h : RefY w B q m) (hok : LyOk m) (hlen : m.length ≤ 1000) :
    Calls Tryd.prog 16 #[ptrK q] w fun e w' => e = .returned (.int .i64 (worthY m)) ∧ Below w.heap.size w w' := by
  obtain ⟨a, c, _, _, hl⟩ := h.later
  have HL : Hid (∀ W, Below w.heap.size w W → _) := hl
  have HK : Hid (LyOk m) := hok
  obtain ⟨ln, hln⟩ : ∃ ln, ln = m.length := ⟨_, rfl⟩
  have HLn : Hid (ln = m.length) := hln
  rw [← hln] at hlen HL
  clear h hok hl hln
  go_enter Tryd.func16, Tryd.ntmps16
  go_wp2
  go_loopw [3, 4] (fun vs vi wr => ∃ j : Nat, j ≤ ln ∧ vi = .int .i64 j ∧ vs = .int .i64 (worthY (m.take j)) ∧ Below w.heap.size w wr) (fun _ vi _ => ln - (RowKit.intOf vi).toNat)
  case atStart => exact ⟨0, Nat.zero_le _, rfl, rfl, Below.refl _ _⟩
  case round =>
    obtain ⟨j, hj, rfl, rfl, hwr⟩ := hrel
    obtain ⟨c0, hc⟩ := HL.out wr hwr
    by_cases hlt : j < ln
    · obtain ⟨x, hx⟩ : ∃ x, m[j]? = some x := ⟨_, List.getElem?_eq_getElem (by rw [← HLn.out]; exact hlt)⟩
      obtain ⟨g, rfl, c1, c2⟩ := hc j x hx
      have hd := fun d => HL.out (wr.drewN d) (below_drewN hwr d)
      have d0 := fun d => (hd d).1
      have d1 : ∀ d, (wr.drewN d).cell? ⟨g, j * 2, none⟩ = some (.int .i64 x.1) := fun d => by
        obtain ⟨g', e, h1, _⟩ := (hd d).2 j x hx
        cases e
        exact h1
      have d2 : ∀ d, (wr.drewN d).cell? ⟨g, j * 2 + 1, none⟩ = some (.int .i64 x.2) := fun d => by
        obtain ⟨g', e, _, h1⟩ := (hd d).2 j x hx
        cases e
        exact h1
      have HE : Hid (worthY (m.take (j + 1)) = worthY (m.take j) + x.1 * x.2) := worthY_succ hx
      obtain ⟨w1, w2⟩ := worthY_take HK.out j
      obtain ⟨w3, w4⟩ := worthY_take HK.out (j + 1)
      rw [HE.out] at w3 w4
      obtain ⟨x1, x2, x3⟩ := HK.out.pos x (List.mem_of_getElem? hx)
      have hb := (cost_bound (n := x.1) (by omega) x2 x3).1
      have hb2 : x.1 * x.2 ≤ 1152921504606846976 := by omega
      have HB : Hid (∀ d, Below w.heap.size w (wr.drewN d)) := fun d => below_drewN hwr d
      clear hx hc hd hwr
      obtain ⟨xa, xb⟩ := x
      simp only at *
      generalize worthY (m.take j) = S at *
      go_wp2
      go_quiet (fail)
      have HBE : Hid (Below w.heap.size w (wr.drewN nq)) := HB.out nq
      clear d0 d1 d2 c0 c1 c2 HB
      generalize wr.drewN nq = WE at *
      go_wp2
      go_roundw
      case rel => exact ⟨j + 1, by omega, by go_num, by rw [HE.out], HBE.out⟩
      case measure => simp [RowKit.intOf]; omega
    · have e : m.take j = m := List.take_of_length_le (by rw [← HLn.out]; omega)
      rw [e]
      clear hc
      go_wp2
      go_ret
      exact ⟨rfl, hwr⟩
end Go.Proofs.YtefkchmahcjleaaDoor
