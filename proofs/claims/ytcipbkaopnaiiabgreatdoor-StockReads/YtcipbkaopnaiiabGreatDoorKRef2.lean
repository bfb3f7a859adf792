/-
  What the reference's At, Of and LineAhead answer; nothing old is turned.
-/
import Derived.Test.YtcipbkaopnaiiabGreatDoorKRef
import Derived.Test.YtcipbkaopnaiiabGreatDoorKLines
namespace Go.Proofs.YtcipbkaopnaiiabGreatDoor
open Go.RowKit Go.Lib Go.Sort

set_option maxRecDepth 100000 in
set_option maxHeartbeats 4000000 in
/-- At. -/
theorem refAt_any (v : Value) (m : List Ln) (x : Pl) (c : ByteArray) (w : World) (h : RefS w v m) (h200 : m.length ≤ 200) (hs : Sorted m) :
    Calls Tryz.prog 22 #[.agg #[v], agP x, .string c] w fun e w' => e = .returned (.int .i64 (atL m (x, c))) ∧ Below w.heap.size w w' := by
  have hB := boxR_below w v x
  obtain ⟨hv, hbx⟩ := boxR_cells w v x
  have hF := find_any v m x c _ (h.all hB) h200
  have hf := (h.all hB).forms
  have HS : Hid (Sorted m) := hs
  have HB : Hid (Below _ _ _) := hB
  have HF : Hid (Calls Tryz.prog 50 _ _ _) := hF
  have hl0 : w.heap.size < (boxR w v x).heap.size := by simp; omega
  clear h hs hB hF
  obtain ⟨a, r, bb⟩ := x
  unfold agP boxR at *
  simp only at *
  obtain ⟨b0, b1, b2⟩ := hbx
  simp only at b0 b1 b2
  rcases findR_cases m ((a, r, bb), c) with ⟨hfr, hno⟩ | ⟨i, l, hfr, hl, hk⟩
  · have HE : Hid (atL m ((a, r, bb), c) = 0) := atL_none hno
    rw [hfr] at HF
    clear hf hno hfr
    go_enter Tryz.func22, Tryz.ntmps22
    go_wp2_with (go_at_call 50; refine HF.out.mono ?_; rintro e w1 ⟨rfl, hb1⟩; have hbw := HB.out.trans (hb1.mono HB.out.size); have hv1 : w1.cell? ⟨w.heap.size, 0, none⟩ = some v := (hb1.cell (p := ⟨w.heap.size, 0, none⟩) hl0).trans hv)
    go_ret
    exact ⟨by rw [HE.out]; rfl, hbw⟩
  · have HE : Hid (atL m ((a, r, bb), c) = l.2.2) := by show _ = _; rw [← hk]; exact find_at HS.out hl
    have hi := (List.getElem?_eq_some_iff.1 hl).1
    rw [hfr] at HF
    rcases hf with ⟨rfl, rfl⟩ | ⟨g, cap, rfl, hg, hrow⟩
    · simp at hl
    · have hrow1 : Hid (∀ w1, Below _ _ w1 → LineAt w1 g (i * 5) l) := fun w1 hb => (hrow.below hb) i l hl
      clear hl hk hrow hfr hg
      generalize m.length = ln at *
      generalize atL m ((a, r, bb), c) = AA at *
      go_enter Tryz.func22, Tryz.ntmps22
      go_wp2_with (go_at_call 50; refine HF.out.mono ?_; rintro e w1 ⟨rfl, hb1⟩; have hbw := HB.out.trans (hb1.mono HB.out.size); have hv1 : w1.cell? ⟨w.heap.size, 0, none⟩ = some (.slice (some ⟨g, 0, none⟩) ln cap) := (hb1.cell (p := ⟨w.heap.size, 0, none⟩) hl0).trans hv; obtain ⟨c0, c1, c2, c3, c4⟩ := hrow1.out w1 hb1)
      go_ret
      exact ⟨by rw [HE.out]; rfl, hbw⟩
set_option maxRecDepth 100000 in
set_option maxHeartbeats 4000000 in
/-- Of. -/
theorem refOf_any (v : Value) (m : List Ln) (c : ByteArray) (w : World) (h : RefS w v m) (hw : Wf m) :
    Calls Tryz.prog 24 #[.agg #[v], .string c] w fun e w' => e = .returned (.int .i64 (ofL m c)) ∧ Below w.heap.size w w' := by
  have hB : Below w.heap.size w (w.alloc (.cells #[v] 30)) := (Below.refl _ w).alloc (Nat.le_refl _) _
  have hv : (w.alloc (.cells #[v] 30)).cell? ⟨w.heap.size, 0, none⟩ = some v := by rw [World.cell?_alloc_at _ _ _ _ rfl]; rfl
  have hf := (h.all hB).forms
  have h200 := hw.len
  have HW : Hid (Wf m) := hw
  clear h hw
  rcases hf with ⟨rfl, rfl⟩ | ⟨g, cap, rfl, hg, hrow⟩
  · have HB : Hid (Below _ _ _) := hB
    clear hB
    go_enter Tryz.func24, Tryz.ntmps24
    go_wp2
    refine wp_loop_rounds 1 ?_
    rw [rounds_succ]
    go_wp2
    go_ret
    exact ⟨rfl, HB.out⟩
  · generalize hln : m.length = ln at *
    have HN : Hid (ln = m.length) := hln.symm
    clear hln
    have HB : Hid (Below _ _ _) := hB
    have HR : Hid (RowN _ g m) := hrow
    have HV : Hid (_ = some (Value.slice (some ⟨g, 0, none⟩) ln cap)) := hv
    have HL0 : Hid (w.heap.size < (w.alloc (.cells #[.slice (some ⟨g, 0, none⟩) ln cap] 30)).heap.size) := by show _ < _; simp
    clear hB hrow hg
    go_enter Tryz.func24, Tryz.ntmps24
    go_wp2
    generalize w.alloc (.cells #[.slice (some ⟨g, 0, none⟩) ln cap] 30) = W at *
    go_loopw [5, 6] (fun sm i wr => ∃ k : Nat, k ≤ ln ∧ i = .int .i64 k ∧ sm = .int .i64 (ofL (m.take k) c) ∧ Below W.heap.size W wr) (fun _ i _ => ln - (RowKit.intOf i).toNat)
    case atStart => exact ⟨0, Nat.zero_le _, rfl, rfl, Below.refl _ _⟩
    case round =>
      obtain ⟨k, hk, rfl, rfl, hwr⟩ := hrel
      have hvr : wr.cell? ⟨w.heap.size, 0, none⟩ = some (.slice (some ⟨g, 0, none⟩) ln cap) := by rw [hwr.cell (p := ⟨w.heap.size, 0, none⟩) HL0.out]; exact HV.out
      by_cases hlt : k < ln
      · have hkm : k < m.length := by rw [← HN.out]; exact hlt
        obtain ⟨l, hl⟩ : ∃ l, m[k]? = some l := ⟨_, List.getElem?_eq_getElem hkm⟩
        obtain ⟨c0, c1, c2, c3, c4⟩ := HR.out.below hwr k l hl
        have e1 := ofL_take_succ hl c
        obtain ⟨o1, o2⟩ := ofL_take_bound HW.out k c
        obtain ⟨o3, o4⟩ := ofL_take_bound HW.out (k + 1) c
        have q1 := HW.out.pos l (List.mem_of_getElem? hl)
        have q2 := HW.out.qty (List.mem_of_getElem? hl)
        clear hl hkm
        obtain ⟨⟨la, lr, lb⟩, lc, lnn⟩ := l
        simp only at c0 c1 c2 c3 c4 e1 q1 q2
        by_cases hc : lc = c
        · rw [if_pos hc] at e1
          have HE : Hid (ofL (m.take (k + 1)) c = ofL (m.take k) c + lnn) := e1
          subst hc
          clear e1
          generalize ofL (m.take k) lc = O at *
          go_wp2
          go_roundw
          case rel => exact ⟨k + 1, by omega, by go_num, by rw [HE.out], hwr⟩
          case measure => simp [RowKit.intOf]; omega
        · rw [if_neg hc, Int.add_zero] at e1
          have HE : Hid (ofL (m.take (k + 1)) c = ofL (m.take k) c) := e1
          have e3 := same_eq lc c
          rw [decide_eq_false hc] at e3
          clear e1 hc
          generalize ofL (m.take k) c = O at *
          go_wp2
          go_roundw
          case rel => exact ⟨k + 1, by omega, by go_num, by rw [HE.out], hwr⟩
          case measure => simp [RowKit.intOf]; omega
      · have e : m.take k = m := List.take_of_length_le (by rw [← HN.out]; omega)
        have HE : Hid (ofL (m.take k) c = ofL m c) := by show _ = _; rw [e]
        clear e
        generalize ofL (m.take k) c = O at *
        go_wp2
        go_ret
        exact ⟨by rw [← HE.out]; rfl, HB.out.trans (hwr.mono HB.out.size)⟩
set_option maxRecDepth 100000 in
set_option maxHeartbeats 4000000 in
/-- LineAhead. -/
theorem lineAhead_any (x y : Ln) (w : World) : Calls Tryz.prog 39 #[agN x, agN y] w fun e w' => e = .returned (.bool (aheadN x y)) ∧ Below w.heap.size w w' := by
  have hB := (boxN2_grew w x y).below
  obtain ⟨x0, x1, x2, x3, _⟩ := boxN2_first w x y
  obtain ⟨y0, y1, y2, y3, _⟩ := boxN2_second w x y
  have hI := fun w1 => isAhead_any x.1 y.1 w1
  have hE := fun W => eqK_run x.1 y.1 W
  have hG := Tryz.guardK
  have HE : Hid (aheadN x y = if x.1 = y.1 then zLt x.2.1 y.2.1 else aheadP x.1 y.1) := aheadN_parts x y
  have HB : Hid (Below _ _ _) := hB
  clear hB
  by_cases hp : x.1 = y.1
  · have HE' : Hid (aheadN x y = zLt x.2.1 y.2.1) := by show _ = _; rw [HE.out, if_pos hp]
    have e1 := less_eq x.2.1 y.2.1
    have H1 : Hid (Op.bytesLess x.2.1.toList y.2.1.toList = zLt x.2.1 y.2.1) := e1
    rw [decide_eq_true hp] at hE
    clear hp hI e1 HE
    generalize aheadN x y = A at *
    obtain ⟨⟨a, r, b⟩, c, n⟩ := x
    obtain ⟨⟨a', r', b'⟩, c', n'⟩ := y
    unfold agN boxN2 at *
    simp only [Nat.zero_add] at *
    go_enter Tryz.func39, Tryz.ntmps39
    go_wp2
    go_ret
    exact ⟨by rw [HE'.out, ← H1.out]; rfl, HB.out⟩
  · have HE' : Hid (aheadN x y = aheadP x.1 y.1) := by show _ = _; rw [HE.out, if_neg hp]
    rw [decide_eq_false hp] at hE
    clear hp HE
    generalize aheadN x y = A at *
    obtain ⟨⟨a, r, b⟩, c, n⟩ := x
    obtain ⟨⟨a', r', b'⟩, c', n'⟩ := y
    unfold agN agP boxN2 at *
    simp only [Nat.zero_add] at *
    generalize aheadP (a, r, b) (a', r', b') = P at *
    go_enter Tryz.func39, Tryz.ntmps39
    go_wp2_with (go_at_call 80; refine (hI _).mono ?_; rintro e w1 ⟨rfl, hb1⟩)
    go_ret
    exact ⟨by rw [HE'.out]; rfl, HB.out.trans (hb1.mono HB.out.size)⟩
end Go.Proofs.YtcipbkaopnaiiabGreatDoor
