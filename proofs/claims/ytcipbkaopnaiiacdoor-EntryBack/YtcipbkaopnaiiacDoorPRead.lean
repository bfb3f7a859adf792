/-
  What place.Read answers, over every world that holds the sentinels ErrText, ErrName and ErrBound as the program lays them; condition: the text is no longer than a string may be.
-/
import Derived.Test.YtcipbkaopnaiiacDoorPParts
namespace Go.Proofs.YtcipbkaopnaiiacDoor
open Go.RowKit Go.Lib Go.Sort

/-- The world behind a result's cells are made. -/
abbrev made (w : World) : World := w.alloc (.cells #[.string ⟨#[]⟩, .int .i64 0, .int .i64 0] 27)
set_option maxRecDepth 100000 in
set_option maxHeartbeats 1000000 in
theorem read_no (x : ByteArray) (w : World) (s : Nat → Addr) (hz : x.size ≤ maxLen) (hs : Three w s) (h : plNum x.data.toList = false) :
    Calls Tryd.prog 31 #[.string x] w fun e w' => e = .returned (.tuple #[agP zeroP, err (s 0)]) ∧ Below w.heap.size w w' := by
  have hB : Below w.heap.size w (made w) := (Below.refl _ w).alloc (Nat.le_refl _) _
  have hp := parts_p x (made w) hz
  rw [h] at hp
  clear h
  generalize plOf x.data.toList = pp at hp
  obtain ⟨a, r, b⟩ := pp
  unfold agP zeroP made at *
  simp only at *
  have HP : Hid (Calls Tryd.prog 37 _ _ _) := hp
  have HB : Hid (Below _ _ _) := hB
  have hgl := cell_lt hs.text
  clear hp hB hz
  go_enter Tryd.func31, Tryd.ntmps31
  go_wp2_with (go_at_call 37; refine HP.out.mono ?_; rintro e w1 ⟨rfl, hb⟩; obtain ⟨hc, hf⟩ := bcell hb; have hbw : Below w.heap.size w w1 := HB.out.trans (hb.mono HB.out.size); have hz1 : w.heap.size < w1.heap.size := (by have := hb.size; simp at this; omega))
  have hT : ∀ o, (w1.alloc o).cell? ⟨4, 0, none⟩ = some (err (s 0)) := fun o => (hs.below (hbw.alloc hbw.size o)).text
  have hK : ∀ o a b c, ((((w1.setCell ⟨w.heap.size, 0, none⟩ a).setCell ⟨w.heap.size, 1, none⟩ b).setCell ⟨w.heap.size, 2, none⟩ c).alloc o).drew.cell? ⟨4, 0, none⟩ = some (err (s 0)) := fun o a b c => (hs.below ((below_set3 hbw (Nat.le_refl _) a b c).alloc (below_set3 hbw (Nat.le_refl _) a b c).size o)).text
  go_region_held3 (fun w' => w'.cell? ⟨4, 0, none⟩ = some (err (s 0))) (first | go_keep | exact hK _ _ _ _) (fail)
  go_wp2
  exact bodyPost_ret (v := .tuple #[.agg #[.string ⟨#[]⟩, .int .i64 0, .int .i64 0], err (s 0)]) (by simp [results, Tryd.results31, go_sem, hc, hz1]) rfl ⟨rfl, ((below_set3 hbw (Nat.le_refl _) _ _ _).alloc (below_set3 hbw (Nat.le_refl _) _ _ _).size _).drew⟩
set_option maxRecDepth 100000 in
set_option maxHeartbeats 1000000 in
theorem read_yes (x : ByteArray) (w : World) (s : Nat → Addr) (hz : x.size ≤ maxLen) (hs : Three w s) (h : plNum x.data.toList = true) (h0 : placeErr (plOf x.data.toList) = 0) :
    Calls Tryd.prog 31 #[.string x] w fun e w' => e = .returned (.tuple #[agP (plOf x.data.toList), .nilIface]) ∧ Below w.heap.size w w' := by
  have hB : Below w.heap.size w (made w) := (Below.refl _ w).alloc (Nat.le_refl _) _
  have hp := parts_p x (made w) hz
  have hzA : (plOf x.data.toList).1.size ≤ maxLen := by
    show (⟨(cutA 45 x.data.toList).toArray⟩ : ByteArray).size ≤ maxLen
    have := cutA_le 45 x.data.toList
    rw [mk_size]; rw [size_len] at this; omega
  have hch := fun w1 (hb : Below w.heap.size w w1) => pcheck_any (plOf x.data.toList) w1 s hzA (hs.two.below hb)
  rw [h0, errP_zero] at hch
  rw [h] at hp
  clear h h0 hzA
  generalize plOf x.data.toList = pp at *
  obtain ⟨a, r, b⟩ := pp
  unfold agP made at *
  simp only at *
  have HP : Hid (Calls Tryd.prog 37 _ _ _) := hp
  have HB : Hid (Below _ _ _) := hB
  clear hp hB hz hs
  go_enter Tryd.func31, Tryd.ntmps31
  go_wp2_with (first
    | (go_at_call 37; refine HP.out.mono ?_; rintro e w1 ⟨rfl, hb⟩; obtain ⟨hc, hf⟩ := bcell hb; have hbw : Below w.heap.size w w1 := HB.out.trans (hb.mono HB.out.size); have hz1 : w.heap.size < w1.heap.size := (by have := hb.size; simp at this; omega))
    | (go_at_call 27; refine (hch _ (hbw.alloc hbw.size _)).mono ?_; rintro e w2 ⟨rfl, hb2⟩; obtain ⟨hc2, hf2⟩ := bcell hb2; have hbw2 : Below w.heap.size w w2 := (hbw.alloc hbw.size _).trans (hb2.mono (by simp; omega)); have hz2 : w1.heap.size < w2.heap.size := (by have := hb2.size; simp at this; omega)))
  obtain ⟨r0, r1, r2⟩ := (((BoxAt.new w zeroP 27 _ rfl).below hb).below ((Below.refl _ _).alloc (Nat.le_refl _) _)).below hb2
  exact bodyPost_ret (v := .tuple #[.agg #[.string a, .int .i64 r, .int .i64 b], .nilIface]) (by simp [results, Tryd.results31, go_sem, r0, r1, r2]) rfl ⟨rfl, below_set3 hbw2 (Nat.le_refl _) _ _ _⟩
set_option maxRecDepth 100000 in
set_option maxHeartbeats 1000000 in
theorem read_err (x : ByteArray) (w : World) (s : Nat → Addr) (hz : x.size ≤ maxLen) (hs : Three w s) (h : plNum x.data.toList = true) (h0 : placeErr (plOf x.data.toList) ≠ 0) :
    Calls Tryd.prog 31 #[.string x] w fun e w' => e = .returned (.tuple #[agP zeroP, errP s (placeErr (plOf x.data.toList))]) ∧ Below w.heap.size w w' := by
  have hB : Below w.heap.size w (made w) := (Below.refl _ w).alloc (Nat.le_refl _) _
  have hp := parts_p x (made w) hz
  have hzA : (plOf x.data.toList).1.size ≤ maxLen := by
    show (⟨(cutA 45 x.data.toList).toArray⟩ : ByteArray).size ≤ maxLen
    have := cutA_le 45 x.data.toList
    rw [mk_size]; rw [size_len] at this; omega
  have hch := fun w1 (hb : Below w.heap.size w w1) => pcheck_any (plOf x.data.toList) w1 s hzA (hs.two.below hb)
  rw [errP_pos s h0] at hch ⊢
  rw [h] at hp
  clear h h0 hzA
  generalize s (placeErr (plOf x.data.toList) - 1) = ad at *
  generalize plOf x.data.toList = pp at *
  obtain ⟨a, r, b⟩ := pp
  unfold agP made zeroP at *
  simp only at *
  have HP : Hid (Calls Tryd.prog 37 _ _ _) := hp
  have HB : Hid (Below _ _ _) := hB
  clear hp hB hz hs
  go_enter Tryd.func31, Tryd.ntmps31
  go_wp2_with (first
    | (go_at_call 37; refine HP.out.mono ?_; rintro e w1 ⟨rfl, hb⟩; obtain ⟨hc, hf⟩ := bcell hb; have hbw : Below w.heap.size w w1 := HB.out.trans (hb.mono HB.out.size); have hz1 : w.heap.size < w1.heap.size := (by have := hb.size; simp at this; omega))
    | (go_at_call 27; refine (hch _ (hbw.alloc hbw.size _)).mono ?_; rintro e w2 ⟨rfl, hb2⟩; obtain ⟨hc2, hf2⟩ := bcell hb2; have hbw2 : Below w.heap.size w w2 := (hbw.alloc hbw.size _).trans (hb2.mono (by simp; omega)); have hz2 : w1.heap.size < w2.heap.size := (by have := hb2.size; simp at this; omega)))
  obtain ⟨r0, r1, r2⟩ := (((BoxAt.new w zeroP 27 _ rfl).below hb).below ((Below.refl _ _).alloc (Nat.le_refl _) _)).below hb2
  exact bodyPost_ret (v := .tuple #[.agg #[.string ⟨#[]⟩, .int .i64 0, .int .i64 0], err ad]) (by simp [results, Tryd.results31, go_sem, r0, r1, r2]) rfl ⟨rfl, below_set3 hbw2 (Nat.le_refl _) _ _ _⟩
/-- place.Read. -/
theorem pread_any (x : ByteArray) (w : World) (s : Nat → Addr) (hz : x.size ≤ maxLen) (hs : Three w s) :
    Calls Tryd.prog 31 #[.string x] w fun e w' => e = .returned (.tuple #[agP (readP x.data.toList).1, errP s (readP x.data.toList).2]) ∧ Below w.heap.size w w' := by
  cases h : plNum x.data.toList with
  | false =>
    have e : readP x.data.toList = (zeroP, 1) := by unfold readP; rw [h]; rfl
    rw [e]
    exact read_no x w s hz hs h
  | true =>
    by_cases h0 : placeErr (plOf x.data.toList) = 0
    · have e : readP x.data.toList = (plOf x.data.toList, 0) := by unfold readP; rw [if_pos h, if_pos h0]
      rw [e]
      exact read_yes x w s hz hs h h0
    · have e : readP x.data.toList = (zeroP, placeErr (plOf x.data.toList)) := by unfold readP; rw [if_pos h, if_neg h0]
      rw [e]
      exact read_err x w s hz hs h h0
theorem readP_code (l : List UInt8) : (readP l).2 ≤ 12 := by
  unfold readP; split
  · split
    · exact Nat.zero_le _
    · exact placeErr_le _
  · decide
end Go.Proofs.YtcipbkaopnaiiacDoor
