/-
  What the reference's ReadLine answers of three words, and of another number of words; nothing old is turned; condition: each word has at most 100,000 bytes.
-/
import Derived.Test.YtcipbkaopnaiiabGreatDoorKRow
import Derived.Test.YtcipbkaopnaiiabGreatDoorKText
import Derived.Test.YtcipbkaopnaiiabGreatDoorPRefRead
namespace Go.Proofs.YtcipbkaopnaiiabGreatDoor
open Go.RowKit Go.Lib Go.Sort

/-- The world behind a result's cells are made. -/
abbrev madeR (w : World) : World := w.alloc (.cells #[.string ⟨#[]⟩, .int .i64 0, .int .i64 0, .string ⟨#[]⟩, .int .i64 0] 69)
theorem below_setR {B n : Nat} {w W : World} (hb : Below B w W) (hn : B ≤ n) (a b c d e : Value) : Below B w (((((W.setCell ⟨n, 0, none⟩ a).setCell ⟨n, 1, none⟩ b).setCell ⟨n, 2, none⟩ c).setCell ⟨n, 3, none⟩ d).setCell ⟨n, 4, none⟩ e) :=
  ((((hb.setCell (p := ⟨n, 0, none⟩) hn _).setCell (p := ⟨n, 1, none⟩) hn _).setCell (p := ⟨n, 2, none⟩) hn _).setCell (p := ⟨n, 3, none⟩) hn _).setCell (p := ⟨n, 4, none⟩) hn _
/-- Three strings lie in a row. -/
structure ThreeS (w : World) (g : Nat) (p0 p1 p2 : ByteArray) : Prop where
  c0 : w.cell? ⟨g, 0, none⟩ = some (.string p0)
  c1 : w.cell? ⟨g, 1, none⟩ = some (.string p1)
  c2 : w.cell? ⟨g, 2, none⟩ = some (.string p2)
theorem ThreeS.below {w w' : World} {g : Nat} {p0 p1 p2 : ByteArray} (h : ThreeS w g p0 p1 p2) (hb : Below w.heap.size w w') : ThreeS w' g p0 p1 p2 where
  c0 := by rw [hb.cell (p := ⟨g, 0, none⟩) (cell_lt h.c0)]; exact h.c0
  c1 := by rw [hb.cell (p := ⟨g, 1, none⟩) (cell_lt h.c1)]; exact h.c1
  c2 := by rw [hb.cell (p := ⟨g, 2, none⟩) (cell_lt h.c2)]; exact h.c2
/-- What lies ahead of a call stays: the result's cells, the three words. -/
theorem rline_kept (w w3 : World) (g : Nat) (zA zB zC : ByteArray) (hS : ThreeS w g zA zB zC) (hb : Below (madeR w).heap.size (madeR w) w3) :
    LineAt w3 w.heap.size 0 zeroN ∧ (∀ o, w3.frozen? ⟨w.heap.size, o, none⟩ = false) ∧ w3.cell? ⟨g, 0, none⟩ = some (.string zA) ∧ w3.cell? ⟨g, 1, none⟩ = some (.string zB) ∧ Below w.heap.size w w3 ∧ w.heap.size < w3.heap.size := by
  have hB2 : Below w.heap.size w (madeR w) := (Below.refl _ w).alloc (Nat.le_refl _) _
  have hS2 := (hS.below hB2).below hb
  refine ⟨(LineAt.new w zeroN 69 _ rfl).below hb, fun o => ?_, hS2.c0, hS2.c1, hB2.trans (hb.mono hB2.size), ?_⟩
  · have hblk : (madeR w).heap[w.heap.size]? = some (.cells #[.string ⟨#[]⟩, .int .i64 0, .int .i64 0, .string ⟨#[]⟩, .int .i64 0] 69) := heap_alloc_new w _
    exact (hb.frozen (p := ⟨w.heap.size, o, none⟩) (by simp)).trans (frozen_of_heap hblk o)
  · have := hb.size; simp at this; omega
set_option maxRecDepth 100000 in
set_option maxHeartbeats 1000000 in
theorem rline_few (g n cap : Nat) (w : World) (hn : n ≠ 3) :
    Calls Tryz.prog 38 #[.slice (some ⟨g, 0, none⟩) n cap] w fun e w' => e = .returned (.tuple #[agN zeroN, .int .i64 1]) ∧ Below w.heap.size w w' := by
  have h4 : ((n : Int) == 3) = false := by simp; omega
  unfold agN zeroN zeroP
  simp only
  go_enter Tryz.func38, Tryz.ntmps38
  go_wp2
  refine bodyPost_ret (v := .tuple #[.agg #[.string ⟨#[]⟩, .int .i64 0, .int .i64 0, .string ⟨#[]⟩, .int .i64 0], .int .i64 1]) (by simp [results, Tryz.results38, go_sem]) rfl ⟨rfl, ?_⟩
  exact (Below.refl _ w).alloc (Nat.le_refl _) _
set_option maxRecDepth 100000 in
set_option maxHeartbeats 2000000 in
theorem rline_num (g cap : Nat) (p0 p1 p2 : ByteArray) (w : World) (hS : ThreeS w g p0 p1 p2) (hl : p2.size ≤ maxLen) (hn : isNum 13 p2.data.toList = false) :
    Calls Tryz.prog 38 #[.slice (some ⟨g, 0, none⟩) 3 cap] w fun e w' => e = .returned (.tuple #[agN zeroN, .int .i64 1]) ∧ Below w.heap.size w w' := by
  have n1 := fun w => numberOf p2 13 w (by decide) hl
  rw [numM_no hn] at n1
  clear hn hl
  obtain ⟨s0, s1, s2⟩ := hS
  have hg := cell_lt s0
  simp only at hg
  have hne : g ≠ w.heap.size := by omega
  unfold agN zeroN zeroP
  simp only
  go_enter Tryz.func38, Tryz.ntmps38
  go_wp2_with (go_at_call 61; refine (n1 _).mono ?_; rintro e w2 ⟨rfl, rfl⟩)
  refine bodyPost_ret (v := .tuple #[.agg #[.string ⟨#[]⟩, .int .i64 0, .int .i64 0, .string ⟨#[]⟩, .int .i64 0], .int .i64 1]) (by simp [results, Tryz.results38, go_sem]) rfl ⟨rfl, ?_⟩
  exact (Below.refl _ w).alloc (Nat.le_refl _) _
set_option maxRecDepth 100000 in
set_option maxHeartbeats 4000000 in
theorem rline_place (g cap : Nat) (p0 p1 p2 : ByteArray) (w : World) (hS : ThreeS w g p0 p1 p2) (hl : p0.size ≤ 100000 ∧ p1.size ≤ 100000 ∧ p2.size ≤ 100000) (h1 : isNum 13 p2.data.toList = true) (h2 : (readP p0.data.toList).2 ≠ 0) :
    Calls Tryz.prog 38 #[.slice (some ⟨g, 0, none⟩) 3 cap] w fun e w' => e = .returned (.tuple #[agN zeroN, .int .i64 (readP p0.data.toList).2]) ∧ Below w.heap.size w w' := by
  have hm : (100000 : Nat) ≤ maxLen := by decide
  have n1 := fun w => numberOf p2 13 w (by decide) (by omega)
  have hR := fun w1 => readPlace_any p0 w1 hl.1
  have hM := fun w1 => isName_any p1 w1 (by omega)
  have hv : 0 ≤ numM 13 p2.data.toList := by rw [numM_yes h1]; omega
  have hne : g ≠ w.heap.size := by have := cell_lt hS.c0; simp only at this; omega
  have hK := fun w3 hb => rline_kept w w3 g p0 p1 p2 hS hb
  have hE : (0 : Int) < ((readP p0.data.toList).2 : Int) := by omega
  generalize (readP p0.data.toList).2 = E at *
  generalize (readP p0.data.toList).1 = pp at *
  generalize numM 13 p2.data.toList = nn at *
  obtain ⟨s0, s1, s2⟩ := hS
  have hg := cell_lt s0
  simp only at hg
  clear h1 hl hm
  obtain ⟨pa, pr, pb⟩ := pp
  unfold agN at *
  unfold agP at *
  unfold zeroN zeroP at hK ⊢
  unfold madeR at *
  simp only at *
  go_enter Tryz.func38, Tryz.ntmps38
  go_wp2_with (first
    | (go_at_call 61; refine (n1 _).mono ?_; rintro e w2 ⟨rfl, rfl⟩)
    | (go_at_call 65; refine (hR _).mono ?_; rintro e w3 ⟨rfl, hb3⟩; obtain ⟨⟨r0, r1, r2, r3, r4⟩, hf3, v0, v1, hbw, hz4⟩ := hK w3 hb3; have hg3 := cell_lt v1; simp only at hg3; simp only [Nat.zero_add] at r0 r1 r2 r3 r4; clear hb3))
  exact bodyPost_ret (v := .tuple #[.agg #[.string ⟨#[]⟩, .int .i64 0, .int .i64 0, .string ⟨#[]⟩, .int .i64 0], .int .i64 E]) (by simp [results, Tryz.results38, go_sem, r0, r1, r2, r3, r4, hz4]) rfl ⟨rfl, (below_setR hbw (Nat.le_refl _) _ _ _ _ _).alloc (below_setR hbw (Nat.le_refl _) _ _ _ _ _).size _⟩
set_option maxRecDepth 100000 in
set_option maxHeartbeats 4000000 in
theorem rline_name (g cap : Nat) (p0 p1 p2 : ByteArray) (w : World) (hS : ThreeS w g p0 p1 p2) (hl : p0.size ≤ 100000 ∧ p1.size ≤ 100000 ∧ p2.size ≤ 100000) (h1 : isNum 13 p2.data.toList = true) (h2 : (readP p0.data.toList).2 = 0) (h3 : isName p1.data.toList = false) :
    Calls Tryz.prog 38 #[.slice (some ⟨g, 0, none⟩) 3 cap] w fun e w' => e = .returned (.tuple #[agN zeroN, .int .i64 5]) ∧ Below w.heap.size w w' := by
  have hm : (100000 : Nat) ≤ maxLen := by decide
  have n1 := fun w => numberOf p2 13 w (by decide) (by omega)
  have hR := fun w1 => readPlace_any p0 w1 hl.1
  have hM := fun w1 => isName_any p1 w1 (by omega)
  have hv : 0 ≤ numM 13 p2.data.toList := by rw [numM_yes h1]; omega
  have hne : g ≠ w.heap.size := by have := cell_lt hS.c0; simp only at this; omega
  have hK := fun w3 hb => rline_kept w w3 g p0 p1 p2 hS hb
  rw [h2] at hR
  rw [h3] at hM
  clear h2 h3
  generalize (readP p0.data.toList).1 = pp at *
  generalize numM 13 p2.data.toList = nn at *
  obtain ⟨s0, s1, s2⟩ := hS
  have hg := cell_lt s0
  simp only at hg
  clear h1 hl hm
  obtain ⟨pa, pr, pb⟩ := pp
  unfold agN at *
  unfold agP at *
  unfold zeroN zeroP at hK ⊢
  unfold madeR at *
  simp only at *
  go_enter Tryz.func38, Tryz.ntmps38
  go_wp2_with (first
    | (go_at_call 61; refine (n1 _).mono ?_; rintro e w2 ⟨rfl, rfl⟩)
    | (go_at_call 65; refine (hR _).mono ?_; rintro e w3 ⟨rfl, hb3⟩; obtain ⟨⟨r0, r1, r2, r3, r4⟩, hf3, v0, v1, hbw, hz4⟩ := hK w3 hb3; have hg3 := cell_lt v1; simp only at hg3; simp only [Nat.zero_add] at r0 r1 r2 r3 r4; clear hb3)
    | (go_at_call 49; refine (hM _).mono ?_; rintro e w4 ⟨rfl, rfl⟩))
  exact bodyPost_ret (v := .tuple #[.agg #[.string ⟨#[]⟩, .int .i64 0, .int .i64 0, .string ⟨#[]⟩, .int .i64 0], .int .i64 5]) (by simp [results, Tryz.results38, go_sem, r0, r1, r2, r3, r4, hz4]) rfl ⟨rfl, (below_setR hbw (Nat.le_refl _) _ _ _ _ _).alloc (below_setR hbw (Nat.le_refl _) _ _ _ _ _).size _⟩
set_option maxRecDepth 100000 in
set_option maxHeartbeats 4000000 in
theorem rline_bound (g cap : Nat) (p0 p1 p2 : ByteArray) (w : World) (hS : ThreeS w g p0 p1 p2) (hl : p0.size ≤ 100000 ∧ p1.size ≤ 100000 ∧ p2.size ≤ 100000) (h1 : isNum 13 p2.data.toList = true) (h2 : (readP p0.data.toList).2 = 0) (h3 : isName p1.data.toList = true) (h4 : numW (numM 13 p2.data.toList) = false) :
    Calls Tryz.prog 38 #[.slice (some ⟨g, 0, none⟩) 3 cap] w fun e w' => e = .returned (.tuple #[agN zeroN, .int .i64 2]) ∧ Below w.heap.size w w' := by
  have hm : (100000 : Nat) ≤ maxLen := by decide
  have n1 := fun w => numberOf p2 13 w (by decide) (by omega)
  have hR := fun w1 => readPlace_any p0 w1 hl.1
  have hM := fun w1 => isName_any p1 w1 (by omega)
  have hv : 0 ≤ numM 13 p2.data.toList := by rw [numM_yes h1]; omega
  have hne : g ≠ w.heap.size := by have := cell_lt hS.c0; simp only at this; omega
  have hK := fun w3 hb => rline_kept w w3 g p0 p1 p2 hS hb
  rw [h2] at hR
  rw [h3] at hM
  clear h2 h3
  generalize (readP p0.data.toList).1 = pp at *
  generalize numM 13 p2.data.toList = nn at *
  obtain ⟨s0, s1, s2⟩ := hS
  have hg := cell_lt s0
  simp only at hg
  clear h1 hl hm
  obtain ⟨pa, pr, pb⟩ := pp
  unfold agN at *
  unfold agP at *
  unfold zeroN zeroP at hK ⊢
  unfold madeR at *
  simp only at *
  have hc : nn < 1 ∨ (1 ≤ nn ∧ 1099511627776 < nn) := by
    have := mt (numW_iff nn).2 (by rw [h4]; decide)
    omega
  clear h4
  rcases hc with hc | ⟨hc, hc2⟩
  all_goals
    go_enter Tryz.func38, Tryz.ntmps38
    go_wp2_with (first
      | (go_at_call 61; refine (n1 _).mono ?_; rintro e w2 ⟨rfl, rfl⟩)
      | (go_at_call 65; refine (hR _).mono ?_; rintro e w3 ⟨rfl, hb3⟩; obtain ⟨⟨r0, r1, r2, r3, r4⟩, hf3, v0, v1, hbw, hz4⟩ := hK w3 hb3; have hg3 := cell_lt v1; simp only at hg3; simp only [Nat.zero_add] at r0 r1 r2 r3 r4; clear hb3)
      | (go_at_call 49; refine (hM _).mono ?_; rintro e w4 ⟨rfl, rfl⟩))
    exact bodyPost_ret (v := .tuple #[.agg #[.string ⟨#[]⟩, .int .i64 0, .int .i64 0, .string ⟨#[]⟩, .int .i64 0], .int .i64 2]) (by simp [results, Tryz.results38, go_sem, r0, r1, r2, r3, r4, hz4]) rfl ⟨rfl, (below_setR hbw (Nat.le_refl _) _ _ _ _ _).alloc (below_setR hbw (Nat.le_refl _) _ _ _ _ _).size _⟩
set_option maxRecDepth 100000 in
set_option maxHeartbeats 4000000 in
theorem rline_in (g cap : Nat) (p0 p1 p2 : ByteArray) (w : World) (hS : ThreeS w g p0 p1 p2) (hl : p0.size ≤ 100000 ∧ p1.size ≤ 100000 ∧ p2.size ≤ 100000) (h1 : isNum 13 p2.data.toList = true) (h2 : (readP p0.data.toList).2 = 0) (h3 : isName p1.data.toList = true) (h4 : numW (numM 13 p2.data.toList) = true) :
    Calls Tryz.prog 38 #[.slice (some ⟨g, 0, none⟩) 3 cap] w fun e w' => e = .returned (.tuple #[agN ((readP p0.data.toList).1, p1, numM 13 p2.data.toList), .int .i64 0]) ∧ Below w.heap.size w w' := by
  have hm : (100000 : Nat) ≤ maxLen := by decide
  have n1 := fun w => numberOf p2 13 w (by decide) (by omega)
  have hR := fun w1 => readPlace_any p0 w1 hl.1
  have hM := fun w1 => isName_any p1 w1 (by omega)
  have hv : 0 ≤ numM 13 p2.data.toList := by rw [numM_yes h1]; omega
  have hne : g ≠ w.heap.size := by have := cell_lt hS.c0; simp only at this; omega
  have hK := fun w3 hb => rline_kept w w3 g p0 p1 p2 hS hb
  rw [h2] at hR
  rw [h3] at hM
  clear h2 h3
  generalize (readP p0.data.toList).1 = pp at *
  generalize numM 13 p2.data.toList = nn at *
  obtain ⟨s0, s1, s2⟩ := hS
  have hg := cell_lt s0
  simp only at hg
  clear h1 hl hm
  obtain ⟨pa, pr, pb⟩ := pp
  unfold agN at *
  unfold agP at *
  unfold zeroN zeroP at hK
  unfold madeR at *
  simp only at *
  obtain ⟨hc1, hc2⟩ := (numW_iff nn).1 h4
  clear h4
  go_enter Tryz.func38, Tryz.ntmps38
  go_wp2_with (first
    | (go_at_call 61; refine (n1 _).mono ?_; rintro e w2 ⟨rfl, rfl⟩)
    | (go_at_call 65; refine (hR _).mono ?_; rintro e w3 ⟨rfl, hb3⟩; obtain ⟨⟨r0, r1, r2, r3, r4⟩, hf3, v0, v1, hbw, hz4⟩ := hK w3 hb3; have hg3 := cell_lt v1; simp only at hg3; simp only [Nat.zero_add] at r0 r1 r2 r3 r4; clear hb3)
    | (go_at_call 49; refine (hM _).mono ?_; rintro e w4 ⟨rfl, rfl⟩))
  go_region
  go_wp2
  exact bodyPost_ret (v := .tuple #[.agg #[.string pa, .int .i64 pr, .int .i64 pb, .string p1, .int .i64 nn], .int .i64 0]) (by simp [results, Tryz.results38, go_sem, r0, r1, r2, r3, r4, hz4]) rfl ⟨rfl, ((below_setR hbw (Nat.le_refl _) _ _ _ _ _).alloc (below_setR hbw (Nat.le_refl _) _ _ _ _ _).size _).drew⟩

theorem splitL_two {l : List UInt8} (h : wordsK l = true) : splitL 32 l = cutA 32 l :: cutA 32 (cutB 32 l) :: splitL 32 (cutB 32 (cutB 32 l)) := by
  unfold wordsK at h
  simp only [Bool.and_eq_true] at h
  obtain ⟨h1, h2⟩ := h
  rw [split_some h1, ← cutB_yes h1, split_some h2, ← cutB_yes h2, cutA_yes h1, cutA_yes h2]
theorem splitL_less {l : List UInt8} (h : wordsK l = false) : (splitL 32 l).length ≠ 3 := by
  unfold wordsK at h
  cases h1 : has 32 l with
  | false => rw [split_none h1]; simp
  | true =>
    rw [h1, Bool.true_and] at h
    rw [split_some h1, ← cutB_yes h1, split_none h]; simp
theorem num_blank {n : Nat} {l : List UInt8} (h : isNum n l = true) : has 32 l = false := has_of_all (by decide) (isNum_facts h).1
theorem words_cells {w1 : World} {B g cap : Nat} {p0 p1 p2 : List UInt8} (h : w1.ownsRow B 9 1 (.slice (some ⟨g, 0, none⟩) 3 cap) 3 (strs [p0, p1, p2])) : ThreeS w1 g ⟨p0.toArray⟩ ⟨p1.toArray⟩ ⟨p2.toArray⟩ :=
  ⟨(h.cellAt 0 (by decide)).trans rfl, (h.cellAt 1 (by decide)).trans rfl, (h.cellAt 2 (by decide)).trans rfl⟩
/-- ReadLine of the words of a text. -/
theorem rline_any (l : List UInt8) (B g cap : Nat) (w : World) (hz : l.length ≤ 100000) (hown : w.ownsRow B 9 1 (.slice (some ⟨g, 0, none⟩) (splitL 32 l).length cap) (splitL 32 l).length (strs (splitL 32 l))) :
    Calls Tryz.prog 38 #[.slice (some ⟨g, 0, none⟩) (splitL 32 l).length cap] w fun e w' => e = .returned (.tuple #[agN (readN l).1, .int .i64 (readN l).2]) ∧ Below w.heap.size w w' := by
  have e0 : ∀ c, lnErr l = c → c ≠ 0 → readN l = (zeroN, c) := fun c h hc => by unfold readN; rw [if_neg (by rw [h]; exact hc), h]
  by_cases h3 : (splitL 32 l).length = 3
  · cases ht : wordsK l with
    | false => exact absurd h3 (splitL_less ht)
    | true =>
      have hs := splitL_two ht
      have hb : has 32 (cutB 32 (cutB 32 l)) = false := by
        cases hb : has 32 (cutB 32 (cutB 32 l)) with
        | false => rfl
        | true =>
          rw [hs, split_some hb] at h3
          have := split_pos 32 (post 32 (cutB 32 (cutB 32 l)))
          simp only [List.length_cons] at h3
          exact absurd (List.eq_nil_of_length_eq_zero (by omega)) this
      rw [split_none hb] at hs
      rw [hs] at hown
      have hS := words_cells hown
      rw [h3]
      have q1 := cutB_le 32 l
      have q2 := cutB_le 32 (cutB 32 l)
      have q5 := cutA_le 32 l
      have q6 := cutA_le 32 (cutB 32 l)
      have z0 : (⟨(cutA 32 l).toArray⟩ : ByteArray).size ≤ 100000 := by rw [mk_size]; omega
      have z1 : (⟨(cutA 32 (cutB 32 l)).toArray⟩ : ByteArray).size ≤ 100000 := by rw [mk_size]; omega
      have z2 : (⟨(cutB 32 (cutB 32 l)).toArray⟩ : ByteArray).size ≤ 100000 := by rw [mk_size]; omega
      have hm : (100000 : Nat) ≤ maxLen := by decide
      cases h1 : isNum 13 (cutB 32 (cutB 32 l)) with
      | false =>
        rw [e0 1 (by unfold lnErr numK; rw [ht, h1]; rfl) (by decide)]
        exact rline_num g cap _ _ _ w hS (by omega) (by rw [bytes_toList]; exact h1)
      | true =>
        have hk : numK l = true := by unfold numK; rw [ht, h1]; rfl
        have eM : numM 13 (cutB 32 (cutB 32 l)) = numVal (cutB 32 (cutB 32 l)) := numM_yes h1
        by_cases h2 : (readP (cutA 32 l)).2 = 0
        · cases h4 : isName (cutA 32 (cutB 32 l)) with
          | false =>
            rw [e0 5 (by unfold lnErr; rw [if_pos hk, if_pos h2, h4]; rfl) (by decide)]
            exact rline_name g cap _ _ _ w hS ⟨z0, z1, z2⟩ (by rw [bytes_toList]; exact h1) (by rw [bytes_toList]; exact h2) (by rw [bytes_toList]; exact h4)
          | true =>
            cases h5 : numW (numVal (cutB 32 (cutB 32 l))) with
            | false =>
              rw [e0 2 (by unfold lnErr; rw [if_pos hk, if_pos h2, if_pos h4, h5]; rfl) (by decide)]
              exact rline_bound g cap _ _ _ w hS ⟨z0, z1, z2⟩ (by rw [bytes_toList]; exact h1) (by rw [bytes_toList]; exact h2) (by rw [bytes_toList]; exact h4) (by rw [bytes_toList, eM]; exact h5)
            | true =>
              have e1 : lnErr l = 0 := by unfold lnErr; rw [if_pos hk, if_pos h2, if_pos h4, if_pos h5]
              have e2 : readN l = (((readP (cutA 32 l)).1, ⟨(cutA 32 (cutB 32 l)).toArray⟩, numM 13 (cutB 32 (cutB 32 l))), 0) := by unfold readN; rw [if_pos e1, eM]; rfl
              rw [e2]
              have hh := rline_in g cap _ _ _ w hS ⟨z0, z1, z2⟩ (by rw [bytes_toList]; exact h1) (by rw [bytes_toList]; exact h2) (by rw [bytes_toList]; exact h4) (by rw [bytes_toList, eM]; exact h5)
              rw [bytes_toList, bytes_toList] at hh
              exact hh
        · rw [e0 (readP (cutA 32 l)).2 (by unfold lnErr; rw [if_pos hk, if_neg h2]) h2]
          have hh := rline_place g cap _ _ _ w hS ⟨z0, z1, z2⟩ (by rw [bytes_toList]; exact h1) (by rw [bytes_toList]; exact h2)
          rw [bytes_toList] at hh
          exact hh
  · have hn : lnErr l = 1 := by
      unfold lnErr
      rw [if_neg]
      intro hk
      unfold numK at hk
      simp only [Bool.and_eq_true] at hk
      exact h3 (by rw [splitL_two hk.1, split_none (num_blank hk.2)]; rfl)
    rw [e0 1 hn (by decide)]
    exact rline_few g _ cap w h3
end Go.Proofs.YtcipbkaopnaiiabGreatDoor
