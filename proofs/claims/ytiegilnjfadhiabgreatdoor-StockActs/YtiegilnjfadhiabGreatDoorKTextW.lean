/-
  What Text answers: the lines of a stock, each as a text; nothing old is turned.
-/
import Derived.Test.YtiegilnjfadhiabGreatDoorKLinesIn
import Derived.Test.YtiegilnjfadhiabGreatDoorKBuild
import Derived.Test.YtiegilnjfadhiabGreatDoorKRefMath
import Derived.Test.YtiegilnjfadhiabGreatDoorKTake
namespace Go.Proofs.YtiegilnjfadhiabGreatDoor
open Go.RowKit Go.Lib Go.Sort Go.Shelf

/-- A line as a text. -/
def lineZ (l : Ln) : ByteArray := ((((ptext l.1 ++ ⟨#[32]⟩) ++ l.2.1) ++ ⟨#[32]⟩) ++ ⟨(decDigits l.2.2.toNat).toArray⟩) ++ ⟨#[10]⟩
theorem lineZ_bytes (l : Ln) : (lineZ l).data.toList = lineB l ++ [10] := by
  unfold lineZ lineB pbytes
  simp only [append_bytes]
  simp
theorem ptext_size {x : Pl} (h : okP x = true) : (ptext x).size ≤ 36 := by rw [← size_len]; exact pbytes_len h
/-- Five joinings, one behind the other. -/
theorem joins5 (a c d : ByteArray) (ha : a.size ≤ 36) (hc : c.size ≤ 8) (hd : d.size ≤ 13) : ∃ t1 t2 t3 t4 : ByteArray,
    (∀ w, (Op.stringOp .add a ⟨#[32]⟩).run Tryz.prog w = .ok (.string t1) w) ∧ (∀ w, (Op.stringOp .add t1 c).run Tryz.prog w = .ok (.string t2) w) ∧ (∀ w, (Op.stringOp .add t2 ⟨#[32]⟩).run Tryz.prog w = .ok (.string t3) w) ∧
    (∀ w, (Op.stringOp .add t3 d).run Tryz.prog w = .ok (.string t4) w) ∧ (∀ w, (Op.stringOp .add t4 ⟨#[10]⟩).run Tryz.prog w = .ok (.string (((((a ++ ⟨#[32]⟩) ++ c) ++ ⟨#[32]⟩) ++ d) ++ ⟨#[10]⟩)) w) := by
  have e : (⟨#[32]⟩ : ByteArray).size = 1 := rfl
  have e' : (⟨#[10]⟩ : ByteArray).size = 1 := rfl
  refine ⟨_, _, _, _, fun w => run_string_add_sum w _ _ ?_, fun w => run_string_add_sum w _ _ ?_, fun w => run_string_add_sum w _ _ ?_, fun w => run_string_add_sum w _ _ ?_, fun w => run_string_add_sum w _ _ ?_⟩
  all_goals
    simp only [ByteArray.size_append, e, e']
    omega
theorem fresh_bld (w w1 : World) (hb : Below (w.heap.size + 1) (w.alloc (.cells #[.pointer none, .slice none 0 0] 77)) w1) : Bld w1.heap.size w.heap.size [] w1 := by
  refine ⟨?_, _, _, Or.inl rfl, (hb.block w.heap.size (by omega)).trans (heap_alloc_new w _), World.ownsRow_nil _ _ _ _⟩
  have := hb.size
  simp at this
  omega
theorem RowN.but {w w' : World} {g B b : Nat} {m : List Ln} (h : RowN w g m) (hb : BelowBut B b w w') (hg : g < B) (hn : g ≠ b) : RowN w' g m := h.of_block (hb.block g hg hn)
set_option maxRecDepth 100000 in
set_option maxHeartbeats 8000000 in
/-- Text. -/
theorem text_any (w : World) (s : Nat → Addr) (p b : Nat) (m : List Ln) (h : IsStock w p b m) (hs : Two w s) (hp : Pow w) :
    Calls Tryz.prog 10 #[.pointer (some ⟨p, 0, none⟩)] w fun e w' => e = .returned (.string ⟨(textB m).toArray⟩) ∧ Below w.heap.size w w' := by
  have hB : Below w.heap.size w (w.alloc (.cells #[.pointer none, .slice none 0 0] 77)) := (Below.refl _ w).alloc (Nat.le_refl _) _
  have HL : Hid (Calls Tryz.prog 33 _ _ _) := lines_any _ p b m (h.all hB)
  have HW : Hid (Wf m) := h.wf
  have h200 := h.wf.len
  have HPT : Hid (∀ (l : Ln) w1, okN l → Below w.heap.size w w1 → Calls Tryz.prog 36 #[agP l.1] w1 fun e w' => e = .returned (.string (ptext l.1)) ∧ Below w1.heap.size w1 w') := fun l w1 hl hb => ptext_any l.1 w1 s (by have := name_short (okP_bounds hl.1).1; unfold maxLen; omega) (hs.below hb) (hp.below hb)
  have HIT : Hid (∀ (l : Ln) w1, okN l → Below w.heap.size w w1 → Calls Tryz.prog 37 #[.int .i64 l.2.2] w1 fun e w' => e = .returned (.string ⟨(decDigits l.2.2.toNat).toArray⟩) ∧ Below w1.heap.size w1 w') := fun l w1 hl hb => itoa_any l.2.2 (by have := hl.2.2.1; omega) (by have := hl.2.2.2; omega) w1 (hp.below hb)
  have HB : Hid (Below w.heap.size w _) := hB
  clear h hs hp hB
  obtain ⟨ln, hln⟩ : ∃ ln, ln = m.length := ⟨_, rfl⟩
  have HN : Hid (ln = m.length) := hln
  rw [← hln] at HL h200
  clear hln
  go_enter Tryz.func10, Tryz.ntmps10
  go_wp2_with (go_at_call 33; refine HL.out.mono ?_; rintro e w1 ⟨g, cap, rfl, hg, hrow, hb1⟩)
  have hbl := fresh_bld w w1 (by simpa using hb1)
  have hg1 : Hid (ln = 0 ∨ (g < w1.heap.size ∧ g ≠ w.heap.size)) := by
    show _ ∨ _
    rcases Nat.eq_zero_or_pos ln with h0 | h0
    · exact Or.inl h0
    · have hlt : 0 < m.length := by rw [← HN.out]; exact h0
      have := (hrow 0 m[0] (List.getElem?_eq_getElem hlt)).lt
      simp at hg
      exact Or.inr ⟨this, by omega⟩
  have hbw : Below w.heap.size w w1 := HB.out.trans (hb1.mono (by simp))
  have HB1 : Hid (w.heap.size < w1.heap.size) := by have := hb1.size; simp at this; show _ < _; omega
  clear HL hb1 hg HB
  generalize hBB : w1.heap.size = B at *
  have HBB : Hid (B ≤ w1.heap.size) := by show _ ≤ _; omega
  clear hBB
  go_loopw [9] (fun i wr => ∃ k : Nat, k ≤ ln ∧ i = .int .i64 k ∧ Bld B w.heap.size (textB (m.take k)) wr ∧ RowN wr g m ∧ Below w.heap.size w wr ∧ B ≤ wr.heap.size) (fun i _ => ln - (RowKit.intOf i).toNat)
  case atStart => exact ⟨0, Nat.zero_le _, rfl, hbl, hrow, hbw, HBB.out⟩
  case round =>
    obtain ⟨k, hk, rfl, hbk, hrk, hwk, hBk⟩ := hrel
    by_cases hlt : k < ln
    · have hkm : k < m.length := by rw [← HN.out]; exact hlt
      obtain ⟨l, hl⟩ : ∃ l, m[k]? = some l := ⟨_, List.getElem?_eq_getElem hkm⟩
      have hok := HW.out.okN l (List.mem_of_getElem? hl)
      obtain ⟨c0, c1, c2, c3, c4⟩ := hrk k l hl
      have e1 := textB_take_succ hl
      have e2 := textB_take_len HW.out k
      have e3 := lineZ_bytes l
      have hP1 := fun w1 => HPT.out l w1 hok
      have hI1 := fun w1 => HIT.out l w1 hok
      have hjo := joins5 (ptext l.1) l.2.1 ⟨(decDigits l.2.2.toNat).toArray⟩ (ptext_size hok.1) (name_short hok.2.1) (dec_size _ (by have := hok.2.2; omega))
      have hsz : (lineZ l).size ≤ 60 := by
        rw [← size_len, e3, List.length_append]
        have := lineB_len hok
        simp; omega
      have hbox := LineAt.new wr l 55 _ rfl
      unfold lineZ at e3 hsz
      clear hl hok hkm
      obtain ⟨⟨a, r, bb⟩, c, n⟩ := l
      simp only at c0 c1 c2 c3 c4 hP1 hI1 hjo hsz e3 hbox
      obtain ⟨t1, t2, t3, t4, s1, s2, s3, s4, s5⟩ := hjo
      generalize (((((ptext (a, r, bb) ++ ⟨#[32]⟩) ++ c) ++ ⟨#[32]⟩) ++ ⟨(decDigits n.toNat).toArray⟩) ++ ⟨#[10]⟩ : ByteArray) = t5 at *
      generalize ptext (a, r, bb) = tp at *
      generalize (⟨(decDigits n.toNat).toArray⟩ : ByteArray) = td at *
      have HE : Hid (textB (m.take (k + 1)) = textB (m.take k) ++ t5.data.toList) := by show _ = _; rw [e1, e3]
      unfold agP at hP1
      clear e1 e3
      obtain ⟨d0, d1, d2, d3, d4⟩ := hbox
      simp only [Nat.zero_add] at d0 d1 d2 d3 d4
      have HWr : Hid (∀ w3, Bld B w.heap.size (textB (m.take k)) w3 → B ≤ w3.heap.size → Calls Tryz.prog 35 #[.pointer (some ⟨w.heap.size, 0, none⟩), .string t5] w3 fun e w' => e = .returned (.tuple #[.int .i64 t5.size, .nilIface]) ∧ Bld B w.heap.size (textB (m.take k) ++ t5.data.toList) w' ∧ BelowBut B w.heap.size w3 w') := fun w3 h1 h2 => bld_write B w.heap.size _ t5 w3 h1 (by omega) h2
      go_wp2
      have hbx : Below w.heap.size w (wr.alloc (.cells #[.string a, .int .i64 r, .int .i64 bb, .string c, .int .i64 n] 55)).drew := (hwk.alloc hwk.size _).drew
      have hby : Below wr.heap.size wr (wr.alloc (.cells #[.string a, .int .i64 r, .int .i64 bb, .string c, .int .i64 n] 55)).drew := ((Below.refl _ wr).alloc (Nat.le_refl _) _).drew
      have HBK : Hid ((wr.alloc (.cells #[.string a, .int .i64 r, .int .i64 bb, .string c, .int .i64 n] 55)).drew.heap[wr.heap.size]? = some (.cells #[.string a, .int .i64 r, .int .i64 bb, .string c, .int .i64 n] 55)) := heap_alloc_new wr _
      generalize (wr.alloc (.cells #[.string a, .int .i64 r, .int .i64 bb, .string c, .int .i64 n] 55)) = W at *
      go_region_held3 (fun w' => w'.cell? ⟨wr.heap.size, 0, none⟩ = some (.string a) ∧ w'.cell? ⟨wr.heap.size, 1, none⟩ = some (.int .i64 r) ∧ w'.cell? ⟨wr.heap.size, 2, none⟩ = some (.int .i64 bb) ∧ w'.cell? ⟨wr.heap.size, 3, none⟩ = some (.string c) ∧ w'.cell? ⟨wr.heap.size, 4, none⟩ = some (.int .i64 n)) (go_keep)
        (first
          | (go_at_call 36; refine (hP1 _ hbx).mono ?_; rintro e w2 ⟨rfl, hb2⟩; obtain ⟨hc2, _⟩ := bcell hb2; have hlt2 : wr.heap.size < W.drew.heap.size := cell_lt d0; have k0 := (hc2 wr.heap.size 0 hlt2).trans d0; have k1 := (hc2 wr.heap.size 1 hlt2).trans d1; have k2 := (hc2 wr.heap.size 2 hlt2).trans d2; have k3 := (hc2 wr.heap.size 3 hlt2).trans d3; have k4 := (hc2 wr.heap.size 4 hlt2).trans d4; have hbx2 : Below w.heap.size w w2 := hbx.trans (hb2.mono hbx.size); have hby2 : Below wr.heap.size wr w2 := hby.trans (hb2.mono hby.size); clear hc2)
          | (go_at_call 37; refine (hI1 _ hbx2).mono ?_; rintro e w3 ⟨rfl, hb3⟩; obtain ⟨hc3, _⟩ := bcell hb3; have hlt3 : wr.heap.size < w2.heap.size := cell_lt k0; have j0 := (hc3 wr.heap.size 0 hlt3).trans k0; have j1 := (hc3 wr.heap.size 1 hlt3).trans k1; have j2 := (hc3 wr.heap.size 2 hlt3).trans k2; have j3 := (hc3 wr.heap.size 3 hlt3).trans k3; have j4 := (hc3 wr.heap.size 4 hlt3).trans k4; have hbx3 : Below w.heap.size w w3 := hbx2.trans (hb3.mono hbx2.size); have hby3 : Below wr.heap.size wr w3 := hby2.trans (hb3.mono hby2.size); clear hc3)
          | (go_at_call 35; refine (HWr.out _ (bld_own hbk hby3) (Nat.le_trans hBk hby3.size)).mono ?_; rintro e w4 ⟨rfl, hbl4, hbb4⟩; have hk4 := (hbb4.other wr.heap.size _ ((hb3.block _ hlt3).trans ((hb2.block _ hlt2).trans HBK.out)) (by have := HB1.out; omega) (by simp)); have i0 : w4.cell? ⟨wr.heap.size, 0, none⟩ = some (.string a) := (by rw [cell_of_heap hk4]; rfl); have i1 : w4.cell? ⟨wr.heap.size, 1, none⟩ = some (.int .i64 r) := (by rw [cell_of_heap hk4]; rfl); have i2 : w4.cell? ⟨wr.heap.size, 2, none⟩ = some (.int .i64 bb) := (by rw [cell_of_heap hk4]; rfl); have i3 : w4.cell? ⟨wr.heap.size, 3, none⟩ = some (.string c) := (by rw [cell_of_heap hk4]; rfl); have i4 : w4.cell? ⟨wr.heap.size, 4, none⟩ = some (.int .i64 n) := (by rw [cell_of_heap hk4]; rfl); clear hk4))
      go_wp2
      have hgk := hg1.out
      go_roundw
      case rel =>
        refine ⟨k + 1, by omega, by go_num, by rw [HE.out]; exact hbl4, ?_, hbx3.trans ((hbb4.below (Nat.le_of_lt HB1.out)).mono (Nat.le_refl _)), Nat.le_trans hBk (Nat.le_trans hby3.size hbb4.size)⟩
        rcases hgk with h0 | ⟨h1, h2⟩
        · omega
        · exact (hrk.below hby3).but hbb4 h1 h2
      case measure => simp [RowKit.intOf]; omega
    · have hkn : k = ln := by omega
      have e : m.take k = m := List.take_of_length_le (by rw [← HN.out]; omega)
      rw [e] at hbk
      have HS : Hid (Calls Tryz.prog 38 _ _ _) := bld_string B w.heap.size (textB m) wr hbk
      clear hkn e
      go_wp2_with (go_at_call 38; refine HS.out.mono ?_; rintro e w2 ⟨rfl, hb2⟩)
      go_ret
      exact ⟨rfl, hwk.trans hb2⟩
end Go.Proofs.YtiegilnjfadhiabGreatDoor
