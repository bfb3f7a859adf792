/-
  What the reference's ReadPlace answers, over whatever world; condition: the text has at most 100,000 bytes.
-/
import Derived.Test.YtgdhfipbbijngaaGreatDoorEzB
namespace Go.Proofs.YtgdhfipbbijngaaGreatDoor
open Go.RowKit Go.Lib Go.Sort

theorem split_three {l p0 p1 p2 : List UInt8} (h : splitL 45 l = [p0, p1, p2]) : p0 = cutA 45 l ∧ p1 = cutA 45 (cutB 45 l) ∧ p2 = cutB 45 (cutB 45 l) := by
  cases h1 : has 45 l with
  | false => rw [split_none h1] at h; simp at h
  | true =>
    rw [split_some h1] at h
    cases h2 : has 45 (post 45 l) with
    | false => rw [split_none h2] at h; simp at h
    | true =>
      rw [split_some h2] at h
      cases h3 : has 45 (post 45 (post 45 l)) with
      | false =>
        rw [split_none h3] at h
        simp only [List.cons.injEq, and_true] at h
        unfold cutA cutB
        simp only [h1, h2, if_true]
        exact ⟨h.1.symm, h.2.1.symm, h.2.2.symm⟩
      | true =>
        rw [split_some h3] at h
        have := split_pos 45 (post 45 (post 45 (post 45 l)))
        simp only [List.cons.injEq] at h
        exact absurd h.2.2.2 this
theorem has_minus {n : Nat} {l : List UInt8} (h : isNum n l = true) : has 45 l = false := by
  unfold isNum at h
  simp only [Bool.and_eq_true] at h
  unfold has
  rw [List.any_eq_false]
  intro x hx he
  have := List.all_eq_true.1 h.2 x hx
  simp at he
  subst he
  exact absurd this (by decide)
theorem split_num {l : List UInt8} (h : plNum l = true) : splitL 45 l = [cutA 45 l, cutA 45 (cutB 45 l), cutB 45 (cutB 45 l)] := by
  unfold plNum at h
  simp only [Bool.and_eq_true] at h
  have hn := isNum_ne h.2
  have hm := has_minus h.2
  cases h1 : has 45 l with
  | false => exact absurd (by rw [cutB_no h1]; rfl) hn
  | true =>
    cases h2 : has 45 (cutB 45 l) with
    | false => exact absurd (cutB_no h2) hn
    | true => rw [split_some h1, ← cutB_yes h1, split_some h2, ← cutB_yes h2, split_none hm, cutA_yes h1, cutA_yes h2]

set_option maxRecDepth 100000 in
set_option maxHeartbeats 1000000 in
theorem readPlace_few (x : ByteArray) (w : World) (hz : x.size ≤ 100000) (h : (splitL 45 x.data.toList).length ≠ 3) :
    Calls Tryz.prog 20 #[.string x] w fun e w' => e = .returned (.tuple #[agP zeroP, .int .i64 1]) ∧ Below w.heap.size w w' := by
  have hB : Below w.heap.size w (made w) := (Below.refl _ w).alloc (Nat.le_refl _) _
  have hp := refCut x 45 (made w) hz
  have h3 : (((splitL 45 x.data.toList).length : Int) == 3) = false := by simp; omega
  have hlen := split_length 45 x.data.toList
  rw [size_len] at hlen
  generalize hn : (splitL 45 x.data.toList).length = n at *
  clear h hn
  unfold agP zeroP made at *
  simp only at *
  have HP : Hid (Calls Tryz.prog 14 _ _ _) := hp
  have HB : Hid (Below _ _ _) := hB
  clear hp hB
  go_enter Tryz.func20, Tryz.ntmps20
  go_wp2_with (go_at_call 14; refine HP.out.mono ?_; rintro e w1 ⟨g, cap, rfl, hown, hb⟩; obtain ⟨hc, hf⟩ := bcell hb; have hbw : Below w.heap.size w w1 := HB.out.trans (hb.mono HB.out.size); have hz1 : w.heap.size < w1.heap.size := (by have := hb.size; simp at this; omega); clear hown)
  obtain ⟨r0, r1, r2⟩ := (BoxAt.new w zeroP 27 _ rfl).below hb
  exact bodyPost_ret (v := .tuple #[.agg #[.string ⟨#[]⟩, .int .i64 0, .int .i64 0], .int .i64 1]) (by simp [results, Tryz.results20, go_sem, r0, r1, r2]) rfl ⟨rfl, below_set3 hbw (Nat.le_refl _) _ _ _⟩
/-- The worlds of three pieces. -/
theorem three_cells {w1 : World} {B g cap : Nat} {p0 p1 p2 : List UInt8} (h : w1.ownsRow B 9 1 (.slice (some ⟨g, 0, none⟩) 3 cap) 3 (strs [p0, p1, p2])) :
    w1.cell? ⟨g, 0, none⟩ = some (.string ⟨p0.toArray⟩) ∧ w1.cell? ⟨g, 1, none⟩ = some (.string ⟨p1.toArray⟩) ∧ w1.cell? ⟨g, 2, none⟩ = some (.string ⟨p2.toArray⟩) :=
  ⟨(h.cellAt 0 (by decide)).trans rfl, (h.cellAt 1 (by decide)).trans rfl, (h.cellAt 2 (by decide)).trans rfl⟩
set_option maxRecDepth 100000 in
set_option maxHeartbeats 1000000 in
theorem readPlace_no (x : ByteArray) (w : World) (p0 p1 p2 : List UInt8) (hz : x.size ≤ 100000) (h : splitL 45 x.data.toList = [p0, p1, p2]) (hl : p1.length ≤ maxLen ∧ p2.length ≤ maxLen) (hn : (isNum 4 p1 && isNum 4 p2) = false) :
    Calls Tryz.prog 20 #[.string x] w fun e w' => e = .returned (.tuple #[agP zeroP, .int .i64 1]) ∧ Below w.heap.size w w' := by
  have hB : Below w.heap.size w (made w) := (Below.refl _ w).alloc (Nat.le_refl _) _
  have hp := refCut x 45 (made w) hz
  rw [h] at hp
  have n1 := fun w => numberOf ⟨p1.toArray⟩ 4 w (by decide) (by rw [mk_size]; exact hl.1)
  have n2 := fun w => numberOf ⟨p2.toArray⟩ 4 w (by decide) (by rw [mk_size]; exact hl.2)
  simp only at n1 n2
  have hv : numM 4 p1 < 0 ∨ (0 ≤ numM 4 p1 ∧ numM 4 p2 < 0) := by
    cases h1 : isNum 4 p1 with
    | false => rw [numM_no h1]; exact Or.inl (by decide)
    | true =>
      rw [h1, Bool.true_and] at hn
      rw [numM_yes h1, numM_no hn]; exact Or.inr ⟨by omega, by decide⟩
  generalize numM 4 p1 = v1 at *
  generalize numM 4 p2 = v2 at *
  clear h hn hl
  unfold agP zeroP made at *
  simp only [List.length_cons, List.length_nil, Nat.reduceAdd] at *
  have HP : Hid (Calls Tryz.prog 14 _ _ _) := hp
  have HB : Hid (Below _ _ _) := hB
  clear hp hB
  rcases hv with hv | ⟨hv0, hv⟩
  all_goals
    go_enter Tryz.func20, Tryz.ntmps20
    go_wp2_with (first
      | (go_at_call 14; refine HP.out.mono ?_; rintro e w1 ⟨g, cap, rfl, hown, hb⟩; obtain ⟨hc, hf⟩ := bcell hb; have hbw : Below w.heap.size w w1 := HB.out.trans (hb.mono HB.out.size); have hz1 : w.heap.size < w1.heap.size := (by have := hb.size; simp at this; omega); obtain ⟨k0, k1, k2⟩ := three_cells hown; clear hown)
      | (go_at_call_of 16 (Value.string ⟨p1.toArray⟩); refine (n1 _).mono ?_; rintro e w2 ⟨rfl, rfl⟩)
      | (go_at_call_of 16 (Value.string ⟨p2.toArray⟩); refine (n2 _).mono ?_; rintro e w3 ⟨rfl, rfl⟩))
    obtain ⟨r0, r1, r2⟩ := (BoxAt.new w zeroP 27 _ rfl).below hb
    exact bodyPost_ret (v := .tuple #[.agg #[.string ⟨#[]⟩, .int .i64 0, .int .i64 0], .int .i64 1]) (by simp [results, Tryz.results20, go_sem, r0, r1, r2]) rfl ⟨rfl, below_set3 hbw (Nat.le_refl _) _ _ _⟩
set_option maxRecDepth 100000 in
set_option maxHeartbeats 1000000 in
theorem readPlace_yes (x : ByteArray) (w : World) (p0 p1 p2 : List UInt8) (hz : x.size ≤ 100000) (h : splitL 45 x.data.toList = [p0, p1, p2]) (hl : p0.length ≤ maxLen ∧ p1.length ≤ maxLen ∧ p2.length ≤ maxLen) (hn1 : isNum 4 p1 = true) (hn2 : isNum 4 p2 = true) (h0 : placeErr (⟨p0.toArray⟩, numM 4 p1, numM 4 p2) = 0) :
    Calls Tryz.prog 20 #[.string x] w fun e w' => e = .returned (.tuple #[agP (⟨p0.toArray⟩, numM 4 p1, numM 4 p2), .int .i64 0]) ∧ Below w.heap.size w w' := by
  have hB : Below w.heap.size w (made w) := (Below.refl _ w).alloc (Nat.le_refl _) _
  have hp := refCut x 45 (made w) hz
  rw [h] at hp
  have hch : ∀ w1, Calls Tryz.prog 27 #[agP (⟨p0.toArray⟩, numM 4 p1, numM 4 p2)] w1 fun e w' => e = .returned (.int .i64 0) ∧ Below w1.heap.size w1 w' := fun w1 => by
    have := placeError_any (⟨p0.toArray⟩, numM 4 p1, numM 4 p2) w1 (by show (⟨p0.toArray⟩ : ByteArray).size ≤ maxLen; rw [mk_size]; exact hl.1)
    rw [h0] at this
    exact this
  have n1 := fun w => numberOf ⟨p1.toArray⟩ 4 w (by decide) (by rw [mk_size]; exact hl.2.1)
  have n2 := fun w => numberOf ⟨p2.toArray⟩ 4 w (by decide) (by rw [mk_size]; exact hl.2.2)
  simp only at n1 n2
  have hv1 : 0 ≤ numM 4 p1 := by rw [numM_yes hn1]; omega
  have hv2 : 0 ≤ numM 4 p2 := by rw [numM_yes hn2]; omega
  clear h hn1 hn2 hl h0
  generalize numM 4 p1 = v1 at *
  generalize numM 4 p2 = v2 at *
  unfold agP made at *
  simp only [List.length_cons, List.length_nil, Nat.reduceAdd] at *
  have HP : Hid (Calls Tryz.prog 14 _ _ _) := hp
  have HB : Hid (Below _ _ _) := hB
  clear hp hB
  go_enter Tryz.func20, Tryz.ntmps20
  go_wp2_with (first
      | (go_at_call 14; refine HP.out.mono ?_; rintro e w1 ⟨g, cap, rfl, hown, hb⟩; obtain ⟨hc, hf⟩ := bcell hb; have hbw : Below w.heap.size w w1 := HB.out.trans (hb.mono HB.out.size); have hz1 : w.heap.size < w1.heap.size := (by have := hb.size; simp at this; omega); obtain ⟨k0, k1, k2⟩ := three_cells hown; clear hown)
      | (go_at_call_of 16 (Value.string ⟨p1.toArray⟩); refine (n1 _).mono ?_; rintro e w2 ⟨rfl, rfl⟩)
      | (go_at_call_of 16 (Value.string ⟨p2.toArray⟩); refine (n2 _).mono ?_; rintro e w3 ⟨rfl, rfl⟩)
      | (go_at_call 27; refine (hch _).mono ?_; rintro e w4 ⟨rfl, hb4⟩; obtain ⟨hc4, hf4⟩ := bcell hb4; have hz4 : w3.heap.size < w4.heap.size := (by have := hb4.size; simp at this; omega); have hbw4 : Below w.heap.size w w4 := (hbw.alloc hbw.size _).trans (hb4.mono (by simp; omega))))
  obtain ⟨r0, r1, r2⟩ := (((BoxAt.new w zeroP 27 _ rfl).below hb).below ((Below.refl _ _).alloc (Nat.le_refl _) _)).below hb4
  exact bodyPost_ret (v := .tuple #[.agg #[.string ⟨p0.toArray⟩, .int .i64 v1, .int .i64 v2], .int .i64 0]) (by simp [results, Tryz.results20, go_sem, r0, r1, r2]) rfl ⟨rfl, below_set3 hbw4 (Nat.le_refl _) _ _ _⟩
set_option maxRecDepth 100000 in
set_option maxHeartbeats 1000000 in
theorem readPlace_err (x : ByteArray) (w : World) (p0 p1 p2 : List UInt8) (hz : x.size ≤ 100000) (h : splitL 45 x.data.toList = [p0, p1, p2]) (hl : p0.length ≤ maxLen ∧ p1.length ≤ maxLen ∧ p2.length ≤ maxLen) (hn1 : isNum 4 p1 = true) (hn2 : isNum 4 p2 = true) (h0 : placeErr (⟨p0.toArray⟩, numM 4 p1, numM 4 p2) ≠ 0) :
    Calls Tryz.prog 20 #[.string x] w fun e w' => e = .returned (.tuple #[agP zeroP, .int .i64 (placeErr (⟨p0.toArray⟩, numM 4 p1, numM 4 p2))]) ∧ Below w.heap.size w w' := by
  have hB : Below w.heap.size w (made w) := (Below.refl _ w).alloc (Nat.le_refl _) _
  have hp := refCut x 45 (made w) hz
  rw [h] at hp
  have hch := fun w1 => placeError_any (⟨p0.toArray⟩, numM 4 p1, numM 4 p2) w1 (by show (⟨p0.toArray⟩ : ByteArray).size ≤ maxLen; rw [mk_size]; exact hl.1)
  have hk : (0 : Int) < (placeErr (⟨p0.toArray⟩, numM 4 p1, numM 4 p2) : Int) := by omega
  have n1 := fun w => numberOf ⟨p1.toArray⟩ 4 w (by decide) (by rw [mk_size]; exact hl.2.1)
  have n2 := fun w => numberOf ⟨p2.toArray⟩ 4 w (by decide) (by rw [mk_size]; exact hl.2.2)
  simp only at n1 n2
  have hv1 : 0 ≤ numM 4 p1 := by rw [numM_yes hn1]; omega
  have hv2 : 0 ≤ numM 4 p2 := by rw [numM_yes hn2]; omega
  generalize (placeErr (⟨p0.toArray⟩, numM 4 p1, numM 4 p2) : Int) = pe at *
  clear h hn1 hn2 hl h0
  generalize numM 4 p1 = v1 at *
  generalize numM 4 p2 = v2 at *
  unfold agP zeroP made at *
  simp only [List.length_cons, List.length_nil, Nat.reduceAdd] at *
  have HP : Hid (Calls Tryz.prog 14 _ _ _) := hp
  have HB : Hid (Below _ _ _) := hB
  clear hp hB
  go_enter Tryz.func20, Tryz.ntmps20
  go_wp2_with (first
      | (go_at_call 14; refine HP.out.mono ?_; rintro e w1 ⟨g, cap, rfl, hown, hb⟩; obtain ⟨hc, hf⟩ := bcell hb; have hbw : Below w.heap.size w w1 := HB.out.trans (hb.mono HB.out.size); have hz1 : w.heap.size < w1.heap.size := (by have := hb.size; simp at this; omega); obtain ⟨k0, k1, k2⟩ := three_cells hown; clear hown)
      | (go_at_call_of 16 (Value.string ⟨p1.toArray⟩); refine (n1 _).mono ?_; rintro e w2 ⟨rfl, rfl⟩)
      | (go_at_call_of 16 (Value.string ⟨p2.toArray⟩); refine (n2 _).mono ?_; rintro e w3 ⟨rfl, rfl⟩)
      | (go_at_call 27; refine (hch _).mono ?_; rintro e w4 ⟨rfl, hb4⟩; obtain ⟨hc4, hf4⟩ := bcell hb4; have hz4 : w3.heap.size < w4.heap.size := (by have := hb4.size; simp at this; omega); have hbw4 : Below w.heap.size w w4 := (hbw.alloc hbw.size _).trans (hb4.mono (by simp; omega))))
  obtain ⟨r0, r1, r2⟩ := (((BoxAt.new w zeroP 27 _ rfl).below hb).below ((Below.refl _ _).alloc (Nat.le_refl _) _)).below hb4
  exact bodyPost_ret (v := .tuple #[.agg #[.string ⟨#[]⟩, .int .i64 0, .int .i64 0], .int .i64 pe]) (by simp [results, Tryz.results20, go_sem, r0, r1, r2]) rfl ⟨rfl, below_set3 hbw4 (Nat.le_refl _) _ _ _⟩
/-- ReadPlace. -/
theorem readPlace_any (x : ByteArray) (w : World) (hz : x.size ≤ 100000) :
    Calls Tryz.prog 20 #[.string x] w fun e w' => e = .returned (.tuple #[agP (readP x.data.toList).1, .int .i64 (readP x.data.toList).2]) ∧ Below w.heap.size w w' := by
  by_cases h3 : (splitL 45 x.data.toList).length = 3
  · have hle := split_le 45 x.data.toList
    rw [size_len] at hle
    obtain ⟨p0, p1, p2, hs⟩ : ∃ p0 p1 p2, splitL 45 x.data.toList = [p0, p1, p2] := by
      generalize splitL 45 x.data.toList = L at h3
      match L, h3 with
      | [a, b, c], _ => exact ⟨a, b, c, rfl⟩
    have l0 := hle p0 (by rw [hs]; simp)
    have l1 := hle p1 (by rw [hs]; simp)
    have l2 := hle p2 (by rw [hs]; simp)
    obtain ⟨e0, e1, e2⟩ := split_three hs
    have hm : (100000 : Nat) ≤ maxLen := by decide
    cases hn : plNum x.data.toList with
    | false =>
      have e : readP x.data.toList = (zeroP, 1) := by unfold readP; rw [hn]; rfl
      rw [e]
      unfold plNum at hn
      rw [← e1, ← e2] at hn
      exact readPlace_no x w p0 p1 p2 hz hs ⟨by omega, by omega⟩ hn
    | true =>
      have hn' := hn
      unfold plNum at hn'
      rw [← e1, ← e2, Bool.and_eq_true] at hn'
      have ep : plOf x.data.toList = (⟨p0.toArray⟩, numM 4 p1, numM 4 p2) := by
        unfold plOf
        rw [← e1, ← e2, ← e0, numR_yes hn'.1, numR_yes hn'.2, numM_yes hn'.1, numM_yes hn'.2]
      by_cases h0 : placeErr (plOf x.data.toList) = 0
      · have e : readP x.data.toList = (plOf x.data.toList, 0) := by unfold readP; rw [if_pos hn, if_pos h0]
        rw [e, ep]
        rw [ep] at h0
        exact readPlace_yes x w p0 p1 p2 hz hs ⟨by omega, by omega, by omega⟩ hn'.1 hn'.2 h0
      · have e : readP x.data.toList = (zeroP, placeErr (plOf x.data.toList)) := by unfold readP; rw [if_pos hn, if_neg h0]
        rw [e, ep]
        rw [ep] at h0
        exact readPlace_err x w p0 p1 p2 hz hs ⟨by omega, by omega, by omega⟩ hn'.1 hn'.2 h0
  · have hn : plNum x.data.toList = false := by
      cases hn : plNum x.data.toList with
      | false => rfl
      | true => exact absurd (by rw [split_num hn]; rfl) h3
    have e : readP x.data.toList = (zeroP, 1) := by unfold readP; rw [hn]; rfl
    rw [e]
    exact readPlace_few x w hz h3
end Go.Proofs.YtgdhfipbbijngaaGreatDoor
