/-
 The reference's stock in memory: its lines lie in a row that nothing else holds; what Find, At, Of and LineAhead answer; nothing old is turned.
-/
import Derived.Test.YteomomeigbfeoaaGreatDoorJz5
import Derived.Test.YteomomeigbfeoaaGreatDoorKMove
import Derived.Test.YteomomeigbfeoaaGreatDoorJz3
import Derived.Lib.SmallJoins
import Derived.BigQuiet
import Derived.Test.YteomomeigbfeoaaGreatDoorKBuild
set_option maxRecDepth 100000
set_option maxHeartbeats 16000000
namespace Go.Proofs.YteomomeigbfeoaaGreatDoor
open Go.RowKit Go.Lib Go.Sort
def RefS (w : World) (v : Value) (m : List Ln) : Prop := w.ownsRow 0 70 5 v m.length (flatN m)
theorem RefS.nil (w : World) : RefS w (.slice none 0 0) [] := World.ownsRow_nil w 0 _ 5
theorem RefS.all {w w' : World} {v : Value} {m : List Ln} (h : RefS w v m) (hb : Below w.heap.size w w') : RefS w' v m :=
 h.kept (row := none) ⟨hb.os, hb.tape, hb.output, hb.size, fun k hk _ => hb.block k hk⟩ (by cases e : v.ownBlock with | none => exact Or.inl rfl | some k => exact Or.inr (by simp))
theorem RefS.forms {w : World} {v : Value} {m : List Ln} (h : RefS w v m) : (v = .slice none 0 0 ∧ m = []) ∨ ∃ g cap, v = .slice (some ⟨g, 0, none⟩) m.length cap ∧ g < w.heap.size ∧ RowN w g m := by
 rcases Joins.ownsRow_forms h with ⟨h1, h2⟩ | ⟨g, cap, rfl⟩
 ·exact Or.inl ⟨h1, List.eq_nil_of_length_eq_zero h2⟩
 ·exact Or.inr ⟨g, cap, rfl, (h.lt g rfl).2, own_rowN h⟩
def findR (m : List Ln) (k : Sp) : Int := match m.findIdx? (fun l => decide (keyL l = k)) with | some i => (i : Int) | none => -1
theorem findR_none {m : List Ln} {k : Sp} (h : ∀ l ∈ m, keyL l ≠ k) : findR m k = -1 := by
 unfold findR
 rw [List.findIdx?_eq_none_iff.2 (fun l hl => by simpa using h l hl)]
theorem findR_at {m : List Ln} {k : Sp} {i : Nat} {l : Ln} (hl : m[i]? = some l) (hk : keyL l = k) (hno : ∀ y ∈ m.take i, keyL y ≠ k) : findR m k = i := by
 obtain ⟨hi, e⟩ := List.getElem?_eq_some_iff.1 hl
 unfold findR
 rw [List.findIdx?_eq_some_iff_getElem.2 ⟨hi, by rw [e]; simpa using hk, fun j hj => by
  have := hno m[j] (List.mem_take_iff_getElem.2 ⟨j, by omega, rfl⟩)
  simpa using this⟩]
theorem findR_cases (m : List Ln) (k : Sp) : (findR m k = -1 ∧ ∀ l ∈ m, keyL l ≠ k) ∨ ∃ (i : Nat) (l : Ln), findR m k = i ∧ m[i]? = some l ∧ keyL l = k := by
 unfold findR
 cases h : m.findIdx? (fun l => decide (keyL l = k)) with
 | none => exact Or.inl ⟨rfl, fun l hl => by simpa using List.findIdx?_eq_none_iff.1 h l hl⟩
 | some i =>
  obtain ⟨hi, h1, _⟩ := List.findIdx?_eq_some_iff_getElem.1 h
  exact Or.inr ⟨i, m[i], rfl, List.getElem?_eq_getElem hi, by simpa using h1⟩
abbrev boxR (w : World) (v : Value) (x : Pl) : World := (w.alloc (.cells #[v] 86)).alloc (.cells #[.string x.1, .int .i64 x.2.1, .int .i64 x.2.2] 28)
theorem boxR_below (w : World) (v : Value) (x : Pl) : Below w.heap.size w (boxR w v x) := ((Below.refl _ w).alloc (Nat.le_refl _) _).alloc (by simp) _
theorem boxR_cells (w : World) (v : Value) (x : Pl) : (boxR w v x).cell? ⟨w.heap.size, 0, none⟩ = some v ∧ BoxAt (w.heap.size + 1) x (boxR w v x) := by
 refine ⟨?_, BoxAt.new _ x _ _ (by simp)⟩
 rw [((Below.refl _ (w.alloc (.cells #[v] 86))).alloc (Nat.le_refl _) _).cell (p := ⟨w.heap.size, 0, none⟩) (by simp), World.cell?_alloc_at _ _ _ _ rfl]; rfl
theorem keyL_ne_place {l : Ln} {x : Pl} {c : ByteArray} (h : l.1 ≠ x) : keyL l ≠ (x, c) := fun e => h (congrArg Prod.fst e)
theorem keyL_ne_lot {l : Ln} {x : Pl} {c : ByteArray} (h : l.2.1 ≠ c) : keyL l ≠ (x, c) := fun e => h (congrArg Prod.snd e)
theorem take_next {m : List Ln} {k : Nat} {l : Ln} {P : Ln → Prop} (hl : m[k]? = some l) (h : ∀ y ∈ m.take k, P y) (h1 : P l) : ∀ y ∈ m.take (k + 1), P y := by
 obtain ⟨hk, e⟩ := List.getElem?_eq_some_iff.1 hl
 rw [List.take_succ_eq_append_getElem hk, e]
 intro y hy
 rcases List.mem_append.1 hy with hy | hy
 ·exact h y hy
 ·obtain rfl : y = l := by simpa using hy
  exact h1
theorem find_any (v : Value) (m : List Ln) (x : Pl) (c : ByteArray) (w : World) (h : RefS w v m) (h200 : m.length ≤ 200) :
  Calls Tryz.prog 131 #[.agg #[v], agP x, .string c] w fun e w' => e = .returned (.int .i64 (findR m (x, c))) ∧ Below w.heap.size w w' := by
 have hB := boxR_below w v x
 obtain ⟨hv, hbx⟩ := boxR_cells w v x
 have hf := (h.all hB).forms
 have hlt0 : w.heap.size + 1 < (boxR w v x).heap.size := by simp
 have hE := fun (l : Ln) W => eqK_run l.1 x W
 have hG := Tryz.guardK
 clear h
 obtain ⟨a, r, bb⟩ := x
 unfold agP boxR at *
 simp only at *
 rcases hf with ⟨rfl, rfl⟩ | ⟨g, cap, rfl, hg, hrow⟩
 ·have HB : Hid (Below _ _ _) := hB
  clear hB hE
  go_enter Tryz.func131, Tryz.ntmps131
  go_wp2
  refine wp_loop_rounds 1 ?_
  rw [rounds_succ]
  go_wp2
  go_ret
  exact ⟨rfl, HB.out⟩
 ·generalize hln : m.length = ln at *
  have HN : Hid (ln = m.length) := hln.symm
  clear hln
  have HB : Hid (Below _ _ _) := hB
  have HR : Hid (RowN _ g m) := hrow
  have HE : Hid (∀ (l : Ln) W, _) := hE
  have HV : Hid (_ = some (Value.slice (some ⟨g, 0, none⟩) ln cap)) := hv
  have HX : Hid (BoxAt _ (a, r, bb) _) := hbx
  have HL0 : Hid (w.heap.size + 1 < _) := hlt0
  clear hB hrow hE hbx hlt0 hg
  go_enter Tryz.func131, Tryz.ntmps131
  go_wp2
  generalize (w.alloc (.cells #[.slice (some ⟨g, 0, none⟩) ln cap] 86)).alloc (.cells #[.string a, .int .i64 r, .int .i64 bb] 28) = W at *
  go_loopw [7] (fun i wr => ∃ k : Nat, k ≤ ln ∧ i = .int .i64 k ∧ Below W.heap.size W wr ∧ ∀ l ∈ m.take k, keyL l ≠ ((a, r, bb), c)) (fun i _ => ln - (RowKit.intOf i).toNat)
  case atStart => exact ⟨0, Nat.zero_le _, rfl, Below.refl _ _, by simp⟩
  case round =>
   obtain ⟨k, hk, rfl, hwr, hno⟩ := hrel
   have HNo : Hid (∀ l ∈ m.take k, keyL l ≠ ((a, r, bb), c)) := hno
   clear hno
   have hvr : wr.cell? ⟨w.heap.size, 0, none⟩ = some (.slice (some ⟨g, 0, none⟩) ln cap) := by rw [hwr.cell (p := ⟨w.heap.size, 0, none⟩) (by have := HL0.out; simp; omega)]; exact HV.out
   obtain ⟨b0, b1, b2⟩ := HX.out.below hwr
   simp only at b0 b1 b2
   by_cases hlt : k < ln
   ·have hkm : k < m.length := by rw [← HN.out]; exact hlt
    obtain ⟨l, hl⟩ : ∃ l, m[k]? = some l := ⟨_, List.getElem?_eq_getElem hkm⟩
    have HLl : Hid (m[k]? = some l) := hl
    obtain ⟨c0, c1, c2, c3, c4⟩ := HR.out.below hwr k l hl
    have hq := HE.out l
    clear hl hkm hv
    obtain ⟨⟨la, lr, lb⟩, lc, lnn⟩ := l
    simp only at c0 c1 c2 c3 c4 hq
    by_cases hp : ((la, lr, lb) : Pl) = (a, r, bb)
    ·rw [decide_eq_true hp] at hq
     by_cases hc : lc = c
     ·have HK : Hid (keyL ((la, lr, lb), lc, lnn) = ((a, r, bb), c)) := by show (((la, lr, lb), lc) : Sp) = _; rw [hp, hc]
      subst hc
      clear hp
      go_wp2
      go_quiet (fail)
      go_wp2
      go_ret
      exact ⟨by rw [findR_at HLl.out HK.out HNo.out]; rfl, HB.out.trans ((below_drewN hwr _).mono HB.out.size)⟩
     ·have HK : Hid (keyL ((la, lr, lb), lc, lnn) ≠ ((a, r, bb), c)) := keyL_ne_lot hc
      have e3 := same_eq lc c
      rw [decide_eq_false hc] at e3
      clear hp hc
      go_wp2
      go_quiet (fail)
      go_wp2
      go_roundw
      case rel => exact ⟨k + 1, by omega, by go_num, below_drewN hwr _, take_next HLl.out HNo.out HK.out⟩
      case measure => simp [RowKit.intOf]; omega
    ·have HK : Hid (keyL ((la, lr, lb), lc, lnn) ≠ ((a, r, bb), c)) := keyL_ne_place hp
     rw [decide_eq_false hp] at hq
     clear hp
     go_wp2
     go_quiet (fail)
     go_wp2
     go_roundw
     case rel => exact ⟨k + 1, by omega, by go_num, below_drewN hwr _, take_next HLl.out HNo.out HK.out⟩
     case measure => simp [RowKit.intOf]; omega
   ·have e : m.take k = m := List.take_of_length_le (by rw [← HN.out]; omega)
    have HNm : Hid (∀ l ∈ m, keyL l ≠ ((a, r, bb), c)) := by show ∀ l ∈ m, _; rw [← e]; exact HNo.out
    clear e hv
    go_wp2
    go_ret
    exact ⟨by rw [findR_none HNm.out]; rfl, HB.out.trans (hwr.mono HB.out.size)⟩
theorem refAt_any (v : Value) (m : List Ln) (x : Pl) (c : ByteArray) (w : World) (h : RefS w v m) (h200 : m.length ≤ 200) (hs : Sorted m) :
  Calls Tryz.prog 133 #[.agg #[v], agP x, .string c] w fun e w' => e = .returned (.int .i64 (atL m (x, c))) ∧ Below w.heap.size w w' := by
 have hB := boxR_below w v x
 obtain ⟨hv, hbx⟩ := boxR_cells w v x
 have hF := find_any v m x c _ (h.all hB) h200
 have hf := (h.all hB).forms
 have HS : Hid (Sorted m) := hs
 have HB : Hid (Below _ _ _) := hB
 have HF : Hid (Calls Tryz.prog 131 _ _ _) := hF
 have hl0 : w.heap.size < (boxR w v x).heap.size := by simp; omega
 clear h hs hB hF
 obtain ⟨a, r, bb⟩ := x
 unfold agP boxR at *
 simp only at *
 obtain ⟨b0, b1, b2⟩ := hbx
 simp only at b0 b1 b2
 rcases findR_cases m ((a, r, bb), c) with ⟨hfr, hno⟩ | ⟨i, l, hfr, hl, hk⟩
 ·have HE : Hid (atL m ((a, r, bb), c) = 0) := atL_none hno
  rw [hfr] at HF
  clear hf hno hfr
  go_enter Tryz.func133, Tryz.ntmps133
  go_wp2_with (go_at_call 131; refine HF.out.mono ?_; rintro e w1 ⟨rfl, hb1⟩; have hbw := HB.out.trans (hb1.mono HB.out.size); have hv1 : w1.cell? ⟨w.heap.size, 0, none⟩ = some v := (hb1.cell (p := ⟨w.heap.size, 0, none⟩) hl0).trans hv)
  go_ret
  exact ⟨by rw [HE.out]; rfl, hbw⟩
 ·have HE : Hid (atL m ((a, r, bb), c) = l.2.2) := by show _ = _; rw [← hk]; exact find_at HS.out hl
  have hi := (List.getElem?_eq_some_iff.1 hl).1
  rw [hfr] at HF
  rcases hf with ⟨rfl, rfl⟩ | ⟨g, cap, rfl, hg, hrow⟩
  ·simp at hl
  ·have hrow1 : Hid (∀ w1, Below _ _ w1 → LineAt w1 g (i * 5) l) := fun w1 hb => (hrow.below hb) i l hl
   clear hl hk hrow hfr hg
   generalize m.length = ln at *
   generalize atL m ((a, r, bb), c) = AA at *
   go_enter Tryz.func133, Tryz.ntmps133
   go_wp2_with (go_at_call 131; refine HF.out.mono ?_; rintro e w1 ⟨rfl, hb1⟩; have hbw := HB.out.trans (hb1.mono HB.out.size); have hv1 : w1.cell? ⟨w.heap.size, 0, none⟩ = some (.slice (some ⟨g, 0, none⟩) ln cap) := (hb1.cell (p := ⟨w.heap.size, 0, none⟩) hl0).trans hv; obtain ⟨c0, c1, c2, c3, c4⟩ := hrow1.out w1 hb1)
   go_ret
   exact ⟨by rw [HE.out]; rfl, hbw⟩
theorem refOf_any (v : Value) (m : List Ln) (c : ByteArray) (w : World) (h : RefS w v m) (hw : Wf m) :
  Calls Tryz.prog 86 #[.agg #[v], .string c] w fun e w' => e = .returned (.int .i64 (ofL m c)) ∧ Below w.heap.size w w' := by
 have hB : Below w.heap.size w (w.alloc (.cells #[v] 86)) := (Below.refl _ w).alloc (Nat.le_refl _) _
 have hv : (w.alloc (.cells #[v] 86)).cell? ⟨w.heap.size, 0, none⟩ = some v := by rw [World.cell?_alloc_at _ _ _ _ rfl]; rfl
 have hf := (h.all hB).forms
 have h200 := hw.len
 have HW : Hid (Wf m) := hw
 clear h hw
 rcases hf with ⟨rfl, rfl⟩ | ⟨g, cap, rfl, hg, hrow⟩
 ·have HB : Hid (Below _ _ _) := hB
  clear hB
  go_enter Tryz.func86, Tryz.ntmps86
  go_wp2
  refine wp_loop_rounds 1 ?_
  rw [rounds_succ]
  go_wp2
  go_ret
  exact ⟨rfl, HB.out⟩
 ·generalize hln : m.length = ln at *
  have HN : Hid (ln = m.length) := hln.symm
  clear hln
  have HB : Hid (Below _ _ _) := hB
  have HR : Hid (RowN _ g m) := hrow
  have HV : Hid (_ = some (Value.slice (some ⟨g, 0, none⟩) ln cap)) := hv
  have HL0 : Hid (w.heap.size < (w.alloc (.cells #[.slice (some ⟨g, 0, none⟩) ln cap] 86)).heap.size) := by show _ < _; simp
  clear hB hrow hg
  go_enter Tryz.func86, Tryz.ntmps86
  go_wp2
  generalize w.alloc (.cells #[.slice (some ⟨g, 0, none⟩) ln cap] 86) = W at *
  go_loopw [5, 6] (fun sm i wr => ∃ k : Nat, k ≤ ln ∧ i = .int .i64 k ∧ sm = .int .i64 (ofL (m.take k) c) ∧ Below W.heap.size W wr) (fun _ i _ => ln - (RowKit.intOf i).toNat)
  case atStart => exact ⟨0, Nat.zero_le _, rfl, rfl, Below.refl _ _⟩
  case round =>
   obtain ⟨k, hk, rfl, rfl, hwr⟩ := hrel
   have hvr : wr.cell? ⟨w.heap.size, 0, none⟩ = some (.slice (some ⟨g, 0, none⟩) ln cap) := by rw [hwr.cell (p := ⟨w.heap.size, 0, none⟩) HL0.out]; exact HV.out
   by_cases hlt : k < ln
   ·have hkm : k < m.length := by rw [← HN.out]; exact hlt
    obtain ⟨l, hl⟩ : ∃ l, m[k]? = some l := ⟨_, List.getElem?_eq_getElem hkm⟩
    obtain ⟨c0, c1, c2, c3, c4⟩ := HR.out.below hwr k l hl
    have e1 := ofL_take_succ hl c
    obtain ⟨o1, o2⟩ := ofL_take_bound HW.out k c
    obtain ⟨o3, o4⟩ := ofL_take_bound HW.out (k + 1) c
    have q1 := HW.out.pos l (List.mem_of_getElem? hl)
    have q2 := HW.out.qty (List.mem_of_getElem? hl)
    clear hl hkm
    obtain ⟨⟨la, lr, lb⟩, lc, lnn⟩ := l
    simp only at c0 c1 c2 c3 c4 e1 q1 q2
    by_cases hc : lc = c
    ·rw [if_pos hc] at e1
     have HE : Hid (ofL (m.take (k + 1)) c = ofL (m.take k) c + lnn) := e1
     subst hc
     clear e1
     generalize ofL (m.take k) lc = O at *
     go_wp2
     go_roundw
     case rel => exact ⟨k + 1, by omega, by go_num, by rw [HE.out], hwr⟩
     case measure => simp [RowKit.intOf]; omega
    ·rw [if_neg hc, Int.add_zero] at e1
     have HE : Hid (ofL (m.take (k + 1)) c = ofL (m.take k) c) := e1
     have e3 := same_eq lc c
     rw [decide_eq_false hc] at e3
     clear e1 hc
     generalize ofL (m.take k) c = O at *
     go_wp2
     go_roundw
     case rel => exact ⟨k + 1, by omega, by go_num, by rw [HE.out], hwr⟩
     case measure => simp [RowKit.intOf]; omega
   ·have e : m.take k = m := List.take_of_length_le (by rw [← HN.out]; omega)
    have HE : Hid (ofL (m.take k) c = ofL m c) := by show _ = _; rw [e]
    clear e
    generalize ofL (m.take k) c = O at *
    go_wp2
    go_ret
    exact ⟨by rw [← HE.out]; rfl, HB.out.trans (hwr.mono HB.out.size)⟩
theorem lineAhead_any (x y : Ln) (w : World) : Calls Tryz.prog 169 #[agN x, agN y] w fun e w' => e = .returned (.bool (aheadN x y)) ∧ Below w.heap.size w w' := by
 have hB := (boxN2_grew w x y).below
 obtain ⟨x0, x1, x2, x3, _⟩ := boxN2_first w x y
 obtain ⟨y0, y1, y2, y3, _⟩ := boxN2_second w x y
 have hI := fun w1 => isAhead_any x.1 y.1 w1
 have hE := fun W => eqK_run x.1 y.1 W
 have hG := Tryz.guardK
 have HE : Hid (aheadN x y = if x.1 = y.1 then zLt x.2.1 y.2.1 else aheadP x.1 y.1) := aheadN_parts x y
 have HB : Hid (Below _ _ _) := hB
 clear hB
 by_cases hp : x.1 = y.1
 ·have HE' : Hid (aheadN x y = zLt x.2.1 y.2.1) := by show _ = _; rw [HE.out, if_pos hp]
  have e1 := less_eq x.2.1 y.2.1
  have H1 : Hid (Op.bytesLess x.2.1.toList y.2.1.toList = zLt x.2.1 y.2.1) := e1
  rw [decide_eq_true hp] at hE
  clear hp hI e1 HE
  generalize aheadN x y = A at *
  obtain ⟨⟨a, r, b⟩, c, n⟩ := x
  obtain ⟨⟨a', r', b'⟩, c', n'⟩ := y
  unfold agN boxN2 at *
  simp only [Nat.zero_add] at *
  go_enter Tryz.func169, Tryz.ntmps169
  go_wp2
  go_ret
  exact ⟨by rw [HE'.out, ← H1.out]; rfl, HB.out⟩
 ·have HE' : Hid (aheadN x y = aheadP x.1 y.1) := by show _ = _; rw [HE.out, if_neg hp]
  rw [decide_eq_false hp] at hE
  clear hp HE
  generalize aheadN x y = A at *
  obtain ⟨⟨a, r, b⟩, c, n⟩ := x
  obtain ⟨⟨a', r', b'⟩, c', n'⟩ := y
  unfold agN agP boxN2 at *
  simp only [Nat.zero_add] at *
  generalize aheadP (a, r, b) (a', r', b') = P at *
  go_enter Tryz.func169, Tryz.ntmps169
  go_wp2_with (go_at_call 204; refine (hI _).mono ?_; rintro e w1 ⟨rfl, hb1⟩)
  go_ret
  exact ⟨by rw [HE'.out]; rfl, HB.out.trans (hb1.mono HB.out.size)⟩
end Go.Proofs.YteomomeigbfeoaaGreatDoor
namespace Go.Proofs.YteomomeigbfeoaaGreatDoor
open Go.RowKit Go.Lib Go.Sort Go.Shelf
def lineZ (l : Ln) : ByteArray := ((((ptext l.1 ++ ⟨#[32]⟩) ++ l.2.1) ++ ⟨#[32]⟩) ++ ⟨(decDigits l.2.2.toNat).toArray⟩) ++ ⟨#[10]⟩
theorem lineZ_bytes (l : Ln) : (lineZ l).data.toList = lineB l ++ [10] := by
 unfold lineZ lineB pbytes
 simp only [append_bytes]
 simp
theorem ptext_size {x : Pl} (h : okP x = true) : (ptext x).size ≤ 36 := by rw [← size_len]; exact pbytes_len h
theorem joins5 (a c d : ByteArray) (ha : a.size ≤ 36) (hc : c.size ≤ 8) (hd : d.size ≤ 13) : ∃ t1 t2 t3 t4 : ByteArray,
  (∀ w, (Op.stringOp .add a ⟨#[32]⟩).run Tryz.prog w = .ok (.string t1) w) ∧ (∀ w, (Op.stringOp .add t1 c).run Tryz.prog w = .ok (.string t2) w) ∧ (∀ w, (Op.stringOp .add t2 ⟨#[32]⟩).run Tryz.prog w = .ok (.string t3) w) ∧
  (∀ w, (Op.stringOp .add t3 d).run Tryz.prog w = .ok (.string t4) w) ∧ (∀ w, (Op.stringOp .add t4 ⟨#[10]⟩).run Tryz.prog w = .ok (.string (((((a ++ ⟨#[32]⟩) ++ c) ++ ⟨#[32]⟩) ++ d) ++ ⟨#[10]⟩)) w) := by
 have e : (⟨#[32]⟩ : ByteArray).size = 1 := rfl
 have e' : (⟨#[10]⟩ : ByteArray).size = 1 := rfl
 refine ⟨_, _, _, _, fun w => run_string_add_sum w _ _ ?_, fun w => run_string_add_sum w _ _ ?_, fun w => run_string_add_sum w _ _ ?_, fun w => run_string_add_sum w _ _ ?_, fun w => run_string_add_sum w _ _ ?_⟩
 all_goals
  simp only [ByteArray.size_append, e, e']
  omega
theorem fresh_bld (w w1 : World) (hb : Below (w.heap.size + 1) (w.alloc (.cells #[.pointer none, .slice none 0 0] 142)) w1) : Bld w1.heap.size w.heap.size [] w1 := by
 refine ⟨?_, _, _, Or.inl rfl, (hb.block w.heap.size (by omega)).trans (heap_alloc_new w _), World.ownsRow_nil _ _ _ _⟩
 have := hb.size
 simp at this
 omega
theorem RowN.but {w w' : World} {g B b : Nat} {m : List Ln} (h : RowN w g m) (hb : BelowBut B b w w') (hg : g < B) (hn : g ≠ b) : RowN w' g m := h.of_block (hb.block g hg hn)
theorem text_any (w : World) (s : Nat → Addr) (p b : Nat) (m : List Ln) (h : IsStock w p b m) (hs : Two w s) (hp : Pow w) :
  Calls Tryz.prog 34 #[.pointer (some ⟨p, 0, none⟩)] w fun e w' => e = .returned (.string ⟨(textB m).toArray⟩) ∧ Below w.heap.size w w' := by
 have hB : Below w.heap.size w (w.alloc (.cells #[.pointer none, .slice none 0 0] 142)) := (Below.refl _ w).alloc (Nat.le_refl _) _
 have HL : Hid (Calls Tryz.prog 31 _ _ _) := lines_any _ p b m (h.all hB)
 have HW : Hid (Wf m) := h.wf
 have h200 := h.wf.len
 have HPT : Hid (∀ (l : Ln) w1, okN l → Below w.heap.size w w1 → Calls Tryz.prog 74 #[agP l.1] w1 fun e w' => e = .returned (.string (ptext l.1)) ∧ Below w1.heap.size w1 w') := fun l w1 hl hb => ptext_any l.1 w1 s (by have := name_short (okP_bounds hl.1).1; unfold maxLen; omega) (hs.below hb) (hp.below hb)
 have HIT : Hid (∀ (l : Ln) w1, okN l → Below w.heap.size w w1 → Calls Tryz.prog 75 #[.int .i64 l.2.2] w1 fun e w' => e = .returned (.string ⟨(decDigits l.2.2.toNat).toArray⟩) ∧ Below w1.heap.size w1 w') := fun l w1 hl hb => itoa_any l.2.2 (by have := hl.2.2.1; omega) (by have := hl.2.2.2; omega) w1 (hp.below hb)
 have HB : Hid (Below w.heap.size w _) := hB
 clear h hs hp hB
 obtain ⟨ln, hln⟩ : ∃ ln, ln = m.length := ⟨_, rfl⟩
 have HN : Hid (ln = m.length) := hln
 rw [← hln] at HL h200
 clear hln
 go_enter Tryz.func34, Tryz.ntmps34
 go_wp2_with (go_at_call 31; refine HL.out.mono ?_; rintro e w1 ⟨g, cap, rfl, hg, hrow, hb1⟩)
 have hbl := fresh_bld w w1 (by simpa using hb1)
 have hg1 : Hid (ln = 0 ∨ (g < w1.heap.size ∧ g ≠ w.heap.size)) := by
  show _ ∨ _
  rcases Nat.eq_zero_or_pos ln with h0 | h0
  ·exact Or.inl h0
  ·have hlt : 0 < m.length := by rw [← HN.out]; exact h0
   have := (hrow 0 m[0] (List.getElem?_eq_getElem hlt)).lt
   simp at hg
   exact Or.inr ⟨this, by omega⟩
 have hbw : Below w.heap.size w w1 := HB.out.trans (hb1.mono (by simp))
 have HB1 : Hid (w.heap.size < w1.heap.size) := by have := hb1.size; simp at this; show _ < _; omega
 clear HL hb1 hg HB
 generalize hBB : w1.heap.size = B at *
 have HBB : Hid (B ≤ w1.heap.size) := by show _ ≤ _; omega
 clear hBB
 go_loopw [9] (fun i wr => ∃ k : Nat, k ≤ ln ∧ i = .int .i64 k ∧ Bld B w.heap.size (textB (m.take k)) wr ∧ RowN wr g m ∧ Below w.heap.size w wr ∧ B ≤ wr.heap.size) (fun i _ => ln - (RowKit.intOf i).toNat)
 case atStart => exact ⟨0, Nat.zero_le _, rfl, hbl, hrow, hbw, HBB.out⟩
 case round =>
  obtain ⟨k, hk, rfl, hbk, hrk, hwk, hBk⟩ := hrel
  by_cases hlt : k < ln
  ·have hkm : k < m.length := by rw [← HN.out]; exact hlt
   obtain ⟨l, hl⟩ : ∃ l, m[k]? = some l := ⟨_, List.getElem?_eq_getElem hkm⟩
   have hok := HW.out.okN l (List.mem_of_getElem? hl)
   obtain ⟨c0, c1, c2, c3, c4⟩ := hrk k l hl
   have e1 := textB_take_succ hl
   have e2 := textB_take_len HW.out k
   have e3 := lineZ_bytes l
   have hP1 := fun w1 => HPT.out l w1 hok
   have hI1 := fun w1 => HIT.out l w1 hok
   have hjo := joins5 (ptext l.1) l.2.1 ⟨(decDigits l.2.2.toNat).toArray⟩ (ptext_size hok.1) (name_short hok.2.1) (dec_size _ (by have := hok.2.2; omega))
   have hsz : (lineZ l).size ≤ 60 := by
    rw [← size_len, e3, List.length_append]
    have := lineB_len hok
    simp; omega
   have hbox := LineAt.new wr l 70 _ rfl
   unfold lineZ at e3 hsz
   clear hl hok hkm
   obtain ⟨⟨a, r, bb⟩, c, n⟩ := l
   simp only at c0 c1 c2 c3 c4 hP1 hI1 hjo hsz e3 hbox
   obtain ⟨t1, t2, t3, t4, s1, s2, s3, s4, s5⟩ := hjo
   generalize (((((ptext (a, r, bb) ++ ⟨#[32]⟩) ++ c) ++ ⟨#[32]⟩) ++ ⟨(decDigits n.toNat).toArray⟩) ++ ⟨#[10]⟩ : ByteArray) = t5 at *
   generalize ptext (a, r, bb) = tp at *
   generalize (⟨(decDigits n.toNat).toArray⟩ : ByteArray) = td at *
   have HE : Hid (textB (m.take (k + 1)) = textB (m.take k) ++ t5.data.toList) := by show _ = _; rw [e1, e3]
   unfold agP at hP1
   clear e1 e3
   obtain ⟨d0, d1, d2, d3, d4⟩ := hbox
   simp only [Nat.zero_add] at d0 d1 d2 d3 d4
   have HWr : Hid (∀ w3, Bld B w.heap.size (textB (m.take k)) w3 → B ≤ w3.heap.size → Calls Tryz.prog 73 #[.pointer (some ⟨w.heap.size, 0, none⟩), .string t5] w3 fun e w' => e = .returned (.tuple #[.int .i64 t5.size, .nilIface]) ∧ Bld B w.heap.size (textB (m.take k) ++ t5.data.toList) w' ∧ BelowBut B w.heap.size w3 w') := fun w3 h1 h2 => bld_write B w.heap.size _ t5 w3 h1 (by omega) h2
   go_wp2
   have hbx : Below w.heap.size w (wr.alloc (.cells #[.string a, .int .i64 r, .int .i64 bb, .string c, .int .i64 n] 70)).drew := (hwk.alloc hwk.size _).drew
   have hby : Below wr.heap.size wr (wr.alloc (.cells #[.string a, .int .i64 r, .int .i64 bb, .string c, .int .i64 n] 70)).drew := ((Below.refl _ wr).alloc (Nat.le_refl _) _).drew
   have HBK : Hid ((wr.alloc (.cells #[.string a, .int .i64 r, .int .i64 bb, .string c, .int .i64 n] 70)).drew.heap[wr.heap.size]? = some (.cells #[.string a, .int .i64 r, .int .i64 bb, .string c, .int .i64 n] 70)) := heap_alloc_new wr _
   generalize (wr.alloc (.cells #[.string a, .int .i64 r, .int .i64 bb, .string c, .int .i64 n] 70)) = W at *
   go_region_held3 (fun w' => w'.cell? ⟨wr.heap.size, 0, none⟩ = some (.string a) ∧ w'.cell? ⟨wr.heap.size, 1, none⟩ = some (.int .i64 r) ∧ w'.cell? ⟨wr.heap.size, 2, none⟩ = some (.int .i64 bb) ∧ w'.cell? ⟨wr.heap.size, 3, none⟩ = some (.string c) ∧ w'.cell? ⟨wr.heap.size, 4, none⟩ = some (.int .i64 n)) (go_keep)
    (first
     | (go_at_call 74; refine (hP1 _ hbx).mono ?_; rintro e w2 ⟨rfl, hb2⟩; obtain ⟨hc2, _⟩ := bcell hb2; have hlt2 : wr.heap.size < W.drew.heap.size := cell_lt d0; have k0 := (hc2 wr.heap.size 0 hlt2).trans d0; have k1 := (hc2 wr.heap.size 1 hlt2).trans d1; have k2 := (hc2 wr.heap.size 2 hlt2).trans d2; have k3 := (hc2 wr.heap.size 3 hlt2).trans d3; have k4 := (hc2 wr.heap.size 4 hlt2).trans d4; have hbx2 : Below w.heap.size w w2 := hbx.trans (hb2.mono hbx.size); have hby2 : Below wr.heap.size wr w2 := hby.trans (hb2.mono hby.size); clear hc2)
     | (go_at_call 75; refine (hI1 _ hbx2).mono ?_; rintro e w3 ⟨rfl, hb3⟩; obtain ⟨hc3, _⟩ := bcell hb3; have hlt3 : wr.heap.size < w2.heap.size := cell_lt k0; have j0 := (hc3 wr.heap.size 0 hlt3).trans k0; have j1 := (hc3 wr.heap.size 1 hlt3).trans k1; have j2 := (hc3 wr.heap.size 2 hlt3).trans k2; have j3 := (hc3 wr.heap.size 3 hlt3).trans k3; have j4 := (hc3 wr.heap.size 4 hlt3).trans k4; have hbx3 : Below w.heap.size w w3 := hbx2.trans (hb3.mono hbx2.size); have hby3 : Below wr.heap.size wr w3 := hby2.trans (hb3.mono hby2.size); clear hc3)
     | (go_at_call 73; refine (HWr.out _ (bld_own hbk hby3) (Nat.le_trans hBk hby3.size)).mono ?_; rintro e w4 ⟨rfl, hbl4, hbb4⟩; have hk4 := (hbb4.other wr.heap.size _ ((hb3.block _ hlt3).trans ((hb2.block _ hlt2).trans HBK.out)) (by have := HB1.out; omega) (by simp)); have i0 : w4.cell? ⟨wr.heap.size, 0, none⟩ = some (.string a) := (by rw [cell_of_heap hk4]; rfl); have i1 : w4.cell? ⟨wr.heap.size, 1, none⟩ = some (.int .i64 r) := (by rw [cell_of_heap hk4]; rfl); have i2 : w4.cell? ⟨wr.heap.size, 2, none⟩ = some (.int .i64 bb) := (by rw [cell_of_heap hk4]; rfl); have i3 : w4.cell? ⟨wr.heap.size, 3, none⟩ = some (.string c) := (by rw [cell_of_heap hk4]; rfl); have i4 : w4.cell? ⟨wr.heap.size, 4, none⟩ = some (.int .i64 n) := (by rw [cell_of_heap hk4]; rfl); clear hk4))
   go_wp2
   have hgk := hg1.out
   go_roundw
   case rel =>
    refine ⟨k + 1, by omega, by go_num, by rw [HE.out]; exact hbl4, ?_, hbx3.trans ((hbb4.below (Nat.le_of_lt HB1.out)).mono (Nat.le_refl _)), Nat.le_trans hBk (Nat.le_trans hby3.size hbb4.size)⟩
    rcases hgk with h0 | ⟨h1, h2⟩
    ·omega
    ·exact (hrk.below hby3).but hbb4 h1 h2
   case measure => simp [RowKit.intOf]; omega
  ·have hkn : k = ln := by omega
   have e : m.take k = m := List.take_of_length_le (by rw [← HN.out]; omega)
   rw [e] at hbk
   have HS : Hid (Calls Tryz.prog 76 _ _ _) := bld_string B w.heap.size (textB m) wr hbk
   clear hkn e
   go_wp2_with (go_at_call 76; refine HS.out.mono ?_; rintro e w2 ⟨rfl, hb2⟩)
   go_ret
   exact ⟨rfl, hwk.trans hb2⟩
end Go.Proofs.YteomomeigbfeoaaGreatDoor
namespace Go.Proofs.YteomomeigbfeoaaGreatDoor
open Go.RowKit Go.Lib Go.Sort
theorem BoxAt.grown {q b : Nat} {x : Pl} {W W' : World} (h : BoxAt q x W) (hg : W.grownBy W' (some b)) (hne : q ≠ b) : BoxAt q x W' := by
 have hlt : q < W.heap.size := cell_lt h.c0
 have hb := hg.block q hlt (by simp; exact hne)
 exact ⟨(World.cell?_of_block (a := ⟨q, 0, none⟩) hb).trans h.c0, (World.cell?_of_block (a := ⟨q, 1, none⟩) hb).trans h.c1, (World.cell?_of_block (a := ⟨q, 2, none⟩) hb).trans h.c2⟩
structure Old (w : World) (s : Nat → Addr) : Prop where
 five : Five w s
 pow : Pow w
theorem Old.below {w w' : World} {s : Nat → Addr} (h : Old w s) (hb : Below w.heap.size w w') : Old w' s := ⟨h.five.below hb, h.pow.below hb⟩
end Go.Proofs.YteomomeigbfeoaaGreatDoor
namespace Go.Proofs.YteomomeigbfeoaaGreatDoor
open Go.RowKit Go.Lib Go.Sort
def txt (m : List Ln) : ByteArray := ⟨(textB m).toArray⟩
structure Old6 (w : World) (s : Nat → Addr) : Prop where
 six : Six w s
 pow : Pow w
theorem Old6.below {w w' : World} {s : Nat → Addr} (h : Old6 w s) (hb : Below w.heap.size w w') : Old6 w' s := ⟨h.six.below hb, h.pow.below hb⟩
theorem Old6.old {w : World} {s : Nat → Addr} (h : Old6 w s) : Old w s := ⟨h.six.five, h.pow⟩
section
variable {W : World} {s : Nat → Addr} (hO : Old6 W s)
include hO
theorem lawText : ∀ w1 p b m, IsStock w1 p b m → Below W.heap.size W w1 → Calls Tryz.prog 34 #[.pointer (some ⟨p, 0, none⟩)] w1 fun e w' => e = .returned (.string (txt m)) ∧ IsStock w' p b m ∧ Below W.heap.size W w' ∧ Below w1.heap.size w1 w' := fun w1 p b m hi hb =>
 (text_any w1 s p b m hi (hO.six.five.two.below hb) (hO.pow.below hb)).mono fun _ _ ⟨he, hb'⟩ => ⟨he, hi.all hb', hb.trans (hb'.mono hb.size), hb'⟩
end
end Go.Proofs.YteomomeigbfeoaaGreatDoor
