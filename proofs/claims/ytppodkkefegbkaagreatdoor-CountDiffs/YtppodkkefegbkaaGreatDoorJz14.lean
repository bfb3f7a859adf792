/-
 The reference's stock in memory: its lines lie in a row that nothing else holds; what Find, At, Of and LineAhead answer; nothing old is turned.
-/
import Derived.Test.YtppodkkefegbkaaGreatDoorJz6
import Derived.Test.YtppodkkefegbkaaGreatDoorKMove
import Derived.Test.YtppodkkefegbkaaGreatDoorJz4
import Derived.Lib.SmallJoins
import Derived.BigQuiet
set_option maxRecDepth 100000
set_option maxHeartbeats 16000000
namespace Go.Proofs.YtppodkkefegbkaaGreatDoor
open Go.RowKit Go.Lib Go.Sort
def RefS (w : World) (v : Value) (m : List Ln) : Prop := w.ownsRow 0 48 5 v m.length (flatN m)
theorem RefS.nil (w : World) : RefS w (.slice none 0 0) [] := World.ownsRow_nil w 0 _ 5
theorem RefS.all {w w' : World} {v : Value} {m : List Ln} (h : RefS w v m) (hb : Below w.heap.size w w') : RefS w' v m :=
 h.kept (row := none) ⟨hb.os, hb.tape, hb.output, hb.size, fun k hk _ => hb.block k hk⟩ (by cases e : v.ownBlock with | none => exact Or.inl rfl | some k => exact Or.inr (by simp))
theorem RefS.forms {w : World} {v : Value} {m : List Ln} (h : RefS w v m) : (v = .slice none 0 0 ∧ m = []) ∨ ∃ g cap, v = .slice (some ⟨g, 0, none⟩) m.length cap ∧ g < w.heap.size ∧ RowN w g m := by
 rcases Joins.ownsRow_forms h with ⟨h1, h2⟩ | ⟨g, cap, rfl⟩
 ·exact Or.inl ⟨h1, List.eq_nil_of_length_eq_zero h2⟩
 ·exact Or.inr ⟨g, cap, rfl, (h.lt g rfl).2, own_rowN h⟩
def findR (m : List Ln) (k : Sp) : Int := match m.findIdx? (fun l => decide (keyL l = k)) with | some i => (i : Int) | none => -1
theorem findR_none {m : List Ln} {k : Sp} (h : ∀ l ∈ m, keyL l ≠ k) : findR m k = -1 := by
 unfold findR
 rw [List.findIdx?_eq_none_iff.2 (fun l hl => by simpa using h l hl)]
theorem findR_at {m : List Ln} {k : Sp} {i : Nat} {l : Ln} (hl : m[i]? = some l) (hk : keyL l = k) (hno : ∀ y ∈ m.take i, keyL y ≠ k) : findR m k = i := by
 obtain ⟨hi, e⟩ := List.getElem?_eq_some_iff.1 hl
 unfold findR
 rw [List.findIdx?_eq_some_iff_getElem.2 ⟨hi, by rw [e]; simpa using hk, fun j hj => by
  have := hno m[j] (List.mem_take_iff_getElem.2 ⟨j, by omega, rfl⟩)
  simpa using this⟩]
theorem findR_cases (m : List Ln) (k : Sp) : (findR m k = -1 ∧ ∀ l ∈ m, keyL l ≠ k) ∨ ∃ (i : Nat) (l : Ln), findR m k = i ∧ m[i]? = some l ∧ keyL l = k := by
 unfold findR
 cases h : m.findIdx? (fun l => decide (keyL l = k)) with
 | none => exact Or.inl ⟨rfl, fun l hl => by simpa using List.findIdx?_eq_none_iff.1 h l hl⟩
 | some i =>
  obtain ⟨hi, h1, _⟩ := List.findIdx?_eq_some_iff_getElem.1 h
  exact Or.inr ⟨i, m[i], rfl, List.getElem?_eq_getElem hi, by simpa using h1⟩
abbrev boxR (w : World) (v : Value) (x : Pl) : World := (w.alloc (.cells #[v] 76)).alloc (.cells #[.string x.1, .int .i64 x.2.1, .int .i64 x.2.2] 41)
theorem boxR_below (w : World) (v : Value) (x : Pl) : Below w.heap.size w (boxR w v x) := ((Below.refl _ w).alloc (Nat.le_refl _) _).alloc (by simp) _
theorem boxR_cells (w : World) (v : Value) (x : Pl) : (boxR w v x).cell? ⟨w.heap.size, 0, none⟩ = some v ∧ BoxAt (w.heap.size + 1) x (boxR w v x) := by
 refine ⟨?_, BoxAt.new _ x _ _ (by simp)⟩
 rw [((Below.refl _ (w.alloc (.cells #[v] 76))).alloc (Nat.le_refl _) _).cell (p := ⟨w.heap.size, 0, none⟩) (by simp), World.cell?_alloc_at _ _ _ _ rfl]; rfl
theorem keyL_ne_place {l : Ln} {x : Pl} {c : ByteArray} (h : l.1 ≠ x) : keyL l ≠ (x, c) := fun e => h (congrArg Prod.fst e)
theorem keyL_ne_lot {l : Ln} {x : Pl} {c : ByteArray} (h : l.2.1 ≠ c) : keyL l ≠ (x, c) := fun e => h (congrArg Prod.snd e)
theorem take_next {m : List Ln} {k : Nat} {l : Ln} {P : Ln → Prop} (hl : m[k]? = some l) (h : ∀ y ∈ m.take k, P y) (h1 : P l) : ∀ y ∈ m.take (k + 1), P y := by
 obtain ⟨hk, e⟩ := List.getElem?_eq_some_iff.1 hl
 rw [List.take_succ_eq_append_getElem hk, e]
 intro y hy
 rcases List.mem_append.1 hy with hy | hy
 ·exact h y hy
 ·obtain rfl : y = l := by simpa using hy
  exact h1
theorem find_any (v : Value) (m : List Ln) (x : Pl) (c : ByteArray) (w : World) (h : RefS w v m) (h200 : m.length ≤ 200) :
  Calls Tryz.prog 82 #[.agg #[v], agP x, .string c] w fun e w' => e = .returned (.int .i64 (findR m (x, c))) ∧ Below w.heap.size w w' := by
 have hB := boxR_below w v x
 obtain ⟨hv, hbx⟩ := boxR_cells w v x
 have hf := (h.all hB).forms
 have hlt0 : w.heap.size + 1 < (boxR w v x).heap.size := by simp
 have hE := fun (l : Ln) W => eqK_run l.1 x W
 have hG := Tryz.guardK
 clear h
 obtain ⟨a, r, bb⟩ := x
 unfold agP boxR at *
 simp only at *
 rcases hf with ⟨rfl, rfl⟩ | ⟨g, cap, rfl, hg, hrow⟩
 ·have HB : Hid (Below _ _ _) := hB
  clear hB hE
  go_enter Tryz.func82, Tryz.ntmps82
  go_wp2
  refine wp_loop_rounds 1 ?_
  rw [rounds_succ]
  go_wp2
  go_ret
  exact ⟨rfl, HB.out⟩
 ·generalize hln : m.length = ln at *
  have HN : Hid (ln = m.length) := hln.symm
  clear hln
  have HB : Hid (Below _ _ _) := hB
  have HR : Hid (RowN _ g m) := hrow
  have HE : Hid (∀ (l : Ln) W, _) := hE
  have HV : Hid (_ = some (Value.slice (some ⟨g, 0, none⟩) ln cap)) := hv
  have HX : Hid (BoxAt _ (a, r, bb) _) := hbx
  have HL0 : Hid (w.heap.size + 1 < _) := hlt0
  clear hB hrow hE hbx hlt0 hg
  go_enter Tryz.func82, Tryz.ntmps82
  go_wp2
  generalize (w.alloc (.cells #[.slice (some ⟨g, 0, none⟩) ln cap] 76)).alloc (.cells #[.string a, .int .i64 r, .int .i64 bb] 41) = W at *
  go_loopw [7] (fun i wr => ∃ k : Nat, k ≤ ln ∧ i = .int .i64 k ∧ Below W.heap.size W wr ∧ ∀ l ∈ m.take k, keyL l ≠ ((a, r, bb), c)) (fun i _ => ln - (RowKit.intOf i).toNat)
  case atStart => exact ⟨0, Nat.zero_le _, rfl, Below.refl _ _, by simp⟩
  case round =>
   obtain ⟨k, hk, rfl, hwr, hno⟩ := hrel
   have HNo : Hid (∀ l ∈ m.take k, keyL l ≠ ((a, r, bb), c)) := hno
   clear hno
   have hvr : wr.cell? ⟨w.heap.size, 0, none⟩ = some (.slice (some ⟨g, 0, none⟩) ln cap) := by rw [hwr.cell (p := ⟨w.heap.size, 0, none⟩) (by have := HL0.out; simp; omega)]; exact HV.out
   obtain ⟨b0, b1, b2⟩ := HX.out.below hwr
   simp only at b0 b1 b2
   by_cases hlt : k < ln
   ·have hkm : k < m.length := by rw [← HN.out]; exact hlt
    obtain ⟨l, hl⟩ : ∃ l, m[k]? = some l := ⟨_, List.getElem?_eq_getElem hkm⟩
    have HLl : Hid (m[k]? = some l) := hl
    obtain ⟨c0, c1, c2, c3, c4⟩ := HR.out.below hwr k l hl
    have hq := HE.out l
    clear hl hkm hv
    obtain ⟨⟨la, lr, lb⟩, lc, lnn⟩ := l
    simp only at c0 c1 c2 c3 c4 hq
    by_cases hp : ((la, lr, lb) : Pl) = (a, r, bb)
    ·rw [decide_eq_true hp] at hq
     by_cases hc : lc = c
     ·have HK : Hid (keyL ((la, lr, lb), lc, lnn) = ((a, r, bb), c)) := by show (((la, lr, lb), lc) : Sp) = _; rw [hp, hc]
      subst hc
      clear hp
      go_wp2
      go_quiet (fail)
      go_wp2
      go_ret
      exact ⟨by rw [findR_at HLl.out HK.out HNo.out]; rfl, HB.out.trans ((below_drewN hwr _).mono HB.out.size)⟩
     ·have HK : Hid (keyL ((la, lr, lb), lc, lnn) ≠ ((a, r, bb), c)) := keyL_ne_lot hc
      have e3 := same_eq lc c
      rw [decide_eq_false hc] at e3
      clear hp hc
      go_wp2
      go_quiet (fail)
      go_wp2
      go_roundw
      case rel => exact ⟨k + 1, by omega, by go_num, below_drewN hwr _, take_next HLl.out HNo.out HK.out⟩
      case measure => simp [RowKit.intOf]; omega
    ·have HK : Hid (keyL ((la, lr, lb), lc, lnn) ≠ ((a, r, bb), c)) := keyL_ne_place hp
     rw [decide_eq_false hp] at hq
     clear hp
     go_wp2
     go_quiet (fail)
     go_wp2
     go_roundw
     case rel => exact ⟨k + 1, by omega, by go_num, below_drewN hwr _, take_next HLl.out HNo.out HK.out⟩
     case measure => simp [RowKit.intOf]; omega
   ·have e : m.take k = m := List.take_of_length_le (by rw [← HN.out]; omega)
    have HNm : Hid (∀ l ∈ m, keyL l ≠ ((a, r, bb), c)) := by show ∀ l ∈ m, _; rw [← e]; exact HNo.out
    clear e hv
    go_wp2
    go_ret
    exact ⟨by rw [findR_none HNm.out]; rfl, HB.out.trans (hwr.mono HB.out.size)⟩
theorem refAt_any (v : Value) (m : List Ln) (x : Pl) (c : ByteArray) (w : World) (h : RefS w v m) (h200 : m.length ≤ 200) (hs : Sorted m) :
  Calls Tryz.prog 52 #[.agg #[v], agP x, .string c] w fun e w' => e = .returned (.int .i64 (atL m (x, c))) ∧ Below w.heap.size w w' := by
 have hB := boxR_below w v x
 obtain ⟨hv, hbx⟩ := boxR_cells w v x
 have hF := find_any v m x c _ (h.all hB) h200
 have hf := (h.all hB).forms
 have HS : Hid (Sorted m) := hs
 have HB : Hid (Below _ _ _) := hB
 have HF : Hid (Calls Tryz.prog 82 _ _ _) := hF
 have hl0 : w.heap.size < (boxR w v x).heap.size := by simp; omega
 clear h hs hB hF
 obtain ⟨a, r, bb⟩ := x
 unfold agP boxR at *
 simp only at *
 obtain ⟨b0, b1, b2⟩ := hbx
 simp only at b0 b1 b2
 rcases findR_cases m ((a, r, bb), c) with ⟨hfr, hno⟩ | ⟨i, l, hfr, hl, hk⟩
 ·have HE : Hid (atL m ((a, r, bb), c) = 0) := atL_none hno
  rw [hfr] at HF
  clear hf hno hfr
  go_enter Tryz.func52, Tryz.ntmps52
  go_wp2_with (go_at_call 82; refine HF.out.mono ?_; rintro e w1 ⟨rfl, hb1⟩; have hbw := HB.out.trans (hb1.mono HB.out.size); have hv1 : w1.cell? ⟨w.heap.size, 0, none⟩ = some v := (hb1.cell (p := ⟨w.heap.size, 0, none⟩) hl0).trans hv)
  go_ret
  exact ⟨by rw [HE.out]; rfl, hbw⟩
 ·have HE : Hid (atL m ((a, r, bb), c) = l.2.2) := by show _ = _; rw [← hk]; exact find_at HS.out hl
  have hi := (List.getElem?_eq_some_iff.1 hl).1
  rw [hfr] at HF
  rcases hf with ⟨rfl, rfl⟩ | ⟨g, cap, rfl, hg, hrow⟩
  ·simp at hl
  ·have hrow1 : Hid (∀ w1, Below _ _ w1 → LineAt w1 g (i * 5) l) := fun w1 hb => (hrow.below hb) i l hl
   clear hl hk hrow hfr hg
   generalize m.length = ln at *
   generalize atL m ((a, r, bb), c) = AA at *
   go_enter Tryz.func52, Tryz.ntmps52
   go_wp2_with (go_at_call 82; refine HF.out.mono ?_; rintro e w1 ⟨rfl, hb1⟩; have hbw := HB.out.trans (hb1.mono HB.out.size); have hv1 : w1.cell? ⟨w.heap.size, 0, none⟩ = some (.slice (some ⟨g, 0, none⟩) ln cap) := (hb1.cell (p := ⟨w.heap.size, 0, none⟩) hl0).trans hv; obtain ⟨c0, c1, c2, c3, c4⟩ := hrow1.out w1 hb1)
   go_ret
   exact ⟨by rw [HE.out]; rfl, hbw⟩
theorem refOf_any (v : Value) (m : List Ln) (c : ByteArray) (w : World) (h : RefS w v m) (hw : Wf m) :
  Calls Tryz.prog 65 #[.agg #[v], .string c] w fun e w' => e = .returned (.int .i64 (ofL m c)) ∧ Below w.heap.size w w' := by
 have hB : Below w.heap.size w (w.alloc (.cells #[v] 76)) := (Below.refl _ w).alloc (Nat.le_refl _) _
 have hv : (w.alloc (.cells #[v] 76)).cell? ⟨w.heap.size, 0, none⟩ = some v := by rw [World.cell?_alloc_at _ _ _ _ rfl]; rfl
 have hf := (h.all hB).forms
 have h200 := hw.len
 have HW : Hid (Wf m) := hw
 clear h hw
 rcases hf with ⟨rfl, rfl⟩ | ⟨g, cap, rfl, hg, hrow⟩
 ·have HB : Hid (Below _ _ _) := hB
  clear hB
  go_enter Tryz.func65, Tryz.ntmps65
  go_wp2
  refine wp_loop_rounds 1 ?_
  rw [rounds_succ]
  go_wp2
  go_ret
  exact ⟨rfl, HB.out⟩
 ·generalize hln : m.length = ln at *
  have HN : Hid (ln = m.length) := hln.symm
  clear hln
  have HB : Hid (Below _ _ _) := hB
  have HR : Hid (RowN _ g m) := hrow
  have HV : Hid (_ = some (Value.slice (some ⟨g, 0, none⟩) ln cap)) := hv
  have HL0 : Hid (w.heap.size < (w.alloc (.cells #[.slice (some ⟨g, 0, none⟩) ln cap] 76)).heap.size) := by show _ < _; simp
  clear hB hrow hg
  go_enter Tryz.func65, Tryz.ntmps65
  go_wp2
  generalize w.alloc (.cells #[.slice (some ⟨g, 0, none⟩) ln cap] 76) = W at *
  go_loopw [5, 6] (fun sm i wr => ∃ k : Nat, k ≤ ln ∧ i = .int .i64 k ∧ sm = .int .i64 (ofL (m.take k) c) ∧ Below W.heap.size W wr) (fun _ i _ => ln - (RowKit.intOf i).toNat)
  case atStart => exact ⟨0, Nat.zero_le _, rfl, rfl, Below.refl _ _⟩
  case round =>
   obtain ⟨k, hk, rfl, rfl, hwr⟩ := hrel
   have hvr : wr.cell? ⟨w.heap.size, 0, none⟩ = some (.slice (some ⟨g, 0, none⟩) ln cap) := by rw [hwr.cell (p := ⟨w.heap.size, 0, none⟩) HL0.out]; exact HV.out
   by_cases hlt : k < ln
   ·have hkm : k < m.length := by rw [← HN.out]; exact hlt
    obtain ⟨l, hl⟩ : ∃ l, m[k]? = some l := ⟨_, List.getElem?_eq_getElem hkm⟩
    obtain ⟨c0, c1, c2, c3, c4⟩ := HR.out.below hwr k l hl
    have e1 := ofL_take_succ hl c
    obtain ⟨o1, o2⟩ := ofL_take_bound HW.out k c
    obtain ⟨o3, o4⟩ := ofL_take_bound HW.out (k + 1) c
    have q1 := HW.out.pos l (List.mem_of_getElem? hl)
    have q2 := HW.out.qty (List.mem_of_getElem? hl)
    clear hl hkm
    obtain ⟨⟨la, lr, lb⟩, lc, lnn⟩ := l
    simp only at c0 c1 c2 c3 c4 e1 q1 q2
    by_cases hc : lc = c
    ·rw [if_pos hc] at e1
     have HE : Hid (ofL (m.take (k + 1)) c = ofL (m.take k) c + lnn) := e1
     subst hc
     clear e1
     generalize ofL (m.take k) lc = O at *
     go_wp2
     go_roundw
     case rel => exact ⟨k + 1, by omega, by go_num, by rw [HE.out], hwr⟩
     case measure => simp [RowKit.intOf]; omega
    ·rw [if_neg hc, Int.add_zero] at e1
     have HE : Hid (ofL (m.take (k + 1)) c = ofL (m.take k) c) := e1
     have e3 := same_eq lc c
     rw [decide_eq_false hc] at e3
     clear e1 hc
     generalize ofL (m.take k) c = O at *
     go_wp2
     go_roundw
     case rel => exact ⟨k + 1, by omega, by go_num, by rw [HE.out], hwr⟩
     case measure => simp [RowKit.intOf]; omega
   ·have e : m.take k = m := List.take_of_length_le (by rw [← HN.out]; omega)
    have HE : Hid (ofL (m.take k) c = ofL m c) := by show _ = _; rw [e]
    clear e
    generalize ofL (m.take k) c = O at *
    go_wp2
    go_ret
    exact ⟨by rw [← HE.out]; rfl, HB.out.trans (hwr.mono HB.out.size)⟩
theorem lineAhead_any (x y : Ln) (w : World) : Calls Tryz.prog 114 #[agN x, agN y] w fun e w' => e = .returned (.bool (aheadN x y)) ∧ Below w.heap.size w w' := by
 have hB := (boxN2_grew w x y).below
 obtain ⟨x0, x1, x2, x3, _⟩ := boxN2_first w x y
 obtain ⟨y0, y1, y2, y3, _⟩ := boxN2_second w x y
 have hI := fun w1 => isAhead_any x.1 y.1 w1
 have hE := fun W => eqK_run x.1 y.1 W
 have hG := Tryz.guardK
 have HE : Hid (aheadN x y = if x.1 = y.1 then zLt x.2.1 y.2.1 else aheadP x.1 y.1) := aheadN_parts x y
 have HB : Hid (Below _ _ _) := hB
 clear hB
 by_cases hp : x.1 = y.1
 ·have HE' : Hid (aheadN x y = zLt x.2.1 y.2.1) := by show _ = _; rw [HE.out, if_pos hp]
  have e1 := less_eq x.2.1 y.2.1
  have H1 : Hid (Op.bytesLess x.2.1.toList y.2.1.toList = zLt x.2.1 y.2.1) := e1
  rw [decide_eq_true hp] at hE
  clear hp hI e1 HE
  generalize aheadN x y = A at *
  obtain ⟨⟨a, r, b⟩, c, n⟩ := x
  obtain ⟨⟨a', r', b'⟩, c', n'⟩ := y
  unfold agN boxN2 at *
  simp only [Nat.zero_add] at *
  go_enter Tryz.func114, Tryz.ntmps114
  go_wp2
  go_ret
  exact ⟨by rw [HE'.out, ← H1.out]; rfl, HB.out⟩
 ·have HE' : Hid (aheadN x y = aheadP x.1 y.1) := by show _ = _; rw [HE.out, if_neg hp]
  rw [decide_eq_false hp] at hE
  clear hp HE
  generalize aheadN x y = A at *
  obtain ⟨⟨a, r, b⟩, c, n⟩ := x
  obtain ⟨⟨a', r', b'⟩, c', n'⟩ := y
  unfold agN agP boxN2 at *
  simp only [Nat.zero_add] at *
  generalize aheadP (a, r, b) (a', r', b') = P at *
  go_enter Tryz.func114, Tryz.ntmps114
  go_wp2_with (go_at_call 133; refine (hI _).mono ?_; rintro e w1 ⟨rfl, hb1⟩)
  go_ret
  exact ⟨by rw [HE'.out]; rfl, HB.out.trans (hb1.mono HB.out.size)⟩
end Go.Proofs.YtppodkkefegbkaaGreatDoor
