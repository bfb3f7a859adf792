/-
  What the reference's ReadLot answers of the words behind the first of a row, over whatever world; condition: the text has at most 100,000 bytes.
-/
import Derived.Test.YtgdhfipbbijngaaGreatDoorLRead
namespace Go.Proofs.YtgdhfipbbijngaaGreatDoor
open Go.RowKit Go.Lib Go.Sort

theorem BoxL.drew {n : Nat} {x : Lo} {W : World} (h : BoxL n x W) : BoxL n x W.drew := ⟨h.c0, h.c1, h.c2, h.c3⟩
set_option maxRecDepth 100000 in
set_option maxHeartbeats 1000000 in
theorem readLotT_few (P : Option Addr) (n cap : Nat) (w : World) (hn : n ≠ 4) :
    Calls Tryz.prog 17 #[.slice P n cap] w fun e w' => e = .returned (.tuple #[agL zeroL, .int .i64 1]) ∧ Below w.heap.size w w' := by
  have h4 : ((n : Int) == 4) = false := by simp; omega
  unfold agL zeroL
  simp only
  go_enter Tryz.func17, Tryz.ntmps17
  go_wp2
  refine bodyPost_ret (v := .tuple #[.agg #[.string ⟨#[]⟩, .string ⟨#[]⟩, .int .i64 0, .int .i64 0], .int .i64 1]) (by simp [results, Tryz.results17, go_sem]) rfl ⟨rfl, ?_⟩
  exact (Below.refl _ w).alloc (Nat.le_refl _) _
/-- Four strings lie in a row. -/
structure FourT (w : World) (g : Nat) (p0 p1 p2 p3 : ByteArray) : Prop where
  c0 : w.cell? ⟨g, 1, none⟩ = some (.string p0)
  c1 : w.cell? ⟨g, 2, none⟩ = some (.string p1)
  c2 : w.cell? ⟨g, 3, none⟩ = some (.string p2)
  c3 : w.cell? ⟨g, 4, none⟩ = some (.string p3)
theorem FourT.below {w w' : World} {g : Nat} {p0 p1 p2 p3 : ByteArray} (h : FourT w g p0 p1 p2 p3) (hb : Below w.heap.size w w') : FourT w' g p0 p1 p2 p3 where
  c0 := by rw [hb.cell (p := ⟨g, 1, none⟩) (cell_lt h.c0)]; exact h.c0
  c1 := by rw [hb.cell (p := ⟨g, 2, none⟩) (cell_lt h.c1)]; exact h.c1
  c2 := by rw [hb.cell (p := ⟨g, 3, none⟩) (cell_lt h.c2)]; exact h.c2
  c3 := by rw [hb.cell (p := ⟨g, 4, none⟩) (cell_lt h.c3)]; exact h.c3
set_option maxRecDepth 100000 in
set_option maxHeartbeats 4000000 in
theorem readLotT_no (g cap : Nat) (p0 p1 p2 p3 : ByteArray) (w : World) (hS : FourT w g p0 p1 p2 p3) (hl : p2.size ≤ maxLen ∧ p3.size ≤ maxLen) (hn : (isNum 9 p2.data.toList && isNum 9 p3.data.toList) = false) :
    Calls Tryz.prog 17 #[.slice (some ⟨g, 1, none⟩) 4 cap] w fun e w' => e = .returned (.tuple #[agL zeroL, .int .i64 1]) ∧ Below w.heap.size w w' := by
  have n1 := fun w => numberOf p2 9 w (by decide) hl.1
  have n2 := fun w => numberOf p3 9 w (by decide) hl.2
  have hv : numM 9 p2.data.toList < 0 ∨ (0 ≤ numM 9 p2.data.toList ∧ numM 9 p3.data.toList < 0) := by
    cases h1 : isNum 9 p2.data.toList with
    | false => rw [numM_no h1]; exact Or.inl (by decide)
    | true =>
      rw [h1, Bool.true_and] at hn
      rw [numM_yes h1, numM_no hn]; exact Or.inr ⟨by omega, by decide⟩
  generalize numM 9 p2.data.toList = v1 at *
  generalize numM 9 p3.data.toList = v2 at *
  clear hn hl
  obtain ⟨s0, s1, s2, s3⟩ := hS
  have hg := cell_lt s0
  simp only at hg
  have hne : g ≠ w.heap.size := by omega
  unfold agL zeroL
  simp only
  rcases hv with hv | ⟨hv0, hv⟩
  all_goals
    go_enter Tryz.func17, Tryz.ntmps17
    go_wp2
    go_region_held3 (fun w' => w'.cell? ⟨g, 1, none⟩ = some (.string p0) ∧ w'.cell? ⟨g, 2, none⟩ = some (.string p1) ∧ w'.cell? ⟨g, 3, none⟩ = some (.string p2) ∧ w'.cell? ⟨g, 4, none⟩ = some (.string p3)) (go_keep)
      (first | (go_at_call_of 16 (Value.string p2); refine (n1 _).mono ?_; rintro e w2 ⟨rfl, rfl⟩) | (go_at_call_of 16 (Value.string p3); refine (n2 _).mono ?_; rintro e w3 ⟨rfl, rfl⟩))
    all_goals
      go_wp2
      refine bodyPost_ret (v := .tuple #[.agg #[.string ⟨#[]⟩, .string ⟨#[]⟩, .int .i64 0, .int .i64 0], .int .i64 1]) (by simp [results, Tryz.results17, go_sem]) rfl ⟨rfl, ?_⟩
      exact (((Below.refl _ w).alloc (Nat.le_refl _) _).alloc (by simp) _).drew
set_option maxRecDepth 100000 in
set_option maxHeartbeats 4000000 in
theorem readLotT_yes (g cap : Nat) (p0 p1 p2 p3 : ByteArray) (w : World) (hS : FourT w g p0 p1 p2 p3) (hl : p0.size ≤ maxLen ∧ p1.size ≤ maxLen ∧ p2.size ≤ maxLen ∧ p3.size ≤ maxLen) (hn1 : isNum 9 p2.data.toList = true) (hn2 : isNum 9 p3.data.toList = true) (h0 : lotErr (p0, p1, numM 9 p2.data.toList, numM 9 p3.data.toList) = 0) :
    Calls Tryz.prog 17 #[.slice (some ⟨g, 1, none⟩) 4 cap] w fun e w' => e = .returned (.tuple #[agL (p0, p1, numM 9 p2.data.toList, numM 9 p3.data.toList), .int .i64 0]) ∧ Below w.heap.size w w' := by
  have n1 := fun w => numberOf p2 9 w (by decide) hl.2.2.1
  have n2 := fun w => numberOf p3 9 w (by decide) hl.2.2.2
  have hch : ∀ w1, Calls Tryz.prog 25 #[agL (p0, p1, numM 9 p2.data.toList, numM 9 p3.data.toList)] w1 fun e w' => e = .returned (.int .i64 0) ∧ Below w1.heap.size w1 w' := fun w1 => by
    have := lotError_any (p0, p1, numM 9 p2.data.toList, numM 9 p3.data.toList) w1 hl.1 hl.2.1
    rw [h0] at this
    exact this
  have hv1 : 0 ≤ numM 9 p2.data.toList := by rw [numM_yes hn1]; omega
  have hv2 : 0 ≤ numM 9 p3.data.toList := by rw [numM_yes hn2]; omega
  generalize numM 9 p2.data.toList = v1 at *
  generalize numM 9 p3.data.toList = v2 at *
  clear hn1 hn2 hl h0
  obtain ⟨s0, s1, s2, s3⟩ := hS
  have hg := cell_lt s0
  simp only at hg
  have hne : g ≠ w.heap.size := by omega
  unfold agL at *
  simp only at *
  go_enter Tryz.func17, Tryz.ntmps17
  go_wp2
  go_region_held3 (fun w' => w'.cell? ⟨g, 1, none⟩ = some (.string p0) ∧ w'.cell? ⟨g, 2, none⟩ = some (.string p1) ∧ w'.cell? ⟨g, 3, none⟩ = some (.string p2) ∧ w'.cell? ⟨g, 4, none⟩ = some (.string p3)) (go_keep)
    (first | (go_at_call_of 16 (Value.string p2); refine (n1 _).mono ?_; rintro e w2 ⟨rfl, rfl⟩) | (go_at_call_of 16 (Value.string p3); refine (n2 _).mono ?_; rintro e w3 ⟨rfl, rfl⟩))
  all_goals
    clear s0 s1 s2 s3 n1 n2
    have b0 := BoxL.new w zeroL _ rfl
    have b1 := (b0.below (boxL_below (boxL w zeroL) (p0, p1, v1, v2))).drew
    have b2 := (BoxL.new (boxL w zeroL) (p0, p1, v1, v2) (w.heap.size + 1) (by simp)).drew
    have hB : Below w.heap.size w (boxL (boxL w zeroL) (p0, p1, v1, v2)).drew := (((Below.refl _ w).alloc (Nat.le_refl _) _).alloc (by simp) _).drew
    go_wp2_with (go_at_call 25; refine (hch _).mono ?_; rintro e w4 ⟨rfl, hb4⟩; obtain ⟨hc4, hf4⟩ := bcell hb4; obtain ⟨r0, r1, r2, r3⟩ := b1.below hb4; obtain ⟨t0, t1, t2, t3⟩ := b2.below hb4; have hz4 : w.heap.size + 1 < w4.heap.size := (by have := hb4.size; simp at this; omega); have hbw4 : Below w.heap.size w w4 := hB.trans (hb4.mono hB.size))
    (try simp only [zeroL] at r0 r1 r2 r3)
    (try simp only at t0 t1 t2 t3)
    (try go_wp2)
    refine bodyPost_ret (v := .tuple #[.agg #[.string p0, .string p1, .int .i64 v1, .int .i64 v2], .int .i64 0]) (by simp [results, Tryz.results17, go_sem, r0, r1, r2, r3]) rfl ⟨rfl, ?_⟩
    exact below_set4 hbw4 (Nat.le_refl _) _ _ _ _
set_option maxRecDepth 100000 in
set_option maxHeartbeats 4000000 in
theorem readLotT_err (g cap : Nat) (p0 p1 p2 p3 : ByteArray) (w : World) (hS : FourT w g p0 p1 p2 p3) (hl : p0.size ≤ maxLen ∧ p1.size ≤ maxLen ∧ p2.size ≤ maxLen ∧ p3.size ≤ maxLen) (hn1 : isNum 9 p2.data.toList = true) (hn2 : isNum 9 p3.data.toList = true) (h0 : lotErr (p0, p1, numM 9 p2.data.toList, numM 9 p3.data.toList) ≠ 0) :
    Calls Tryz.prog 17 #[.slice (some ⟨g, 1, none⟩) 4 cap] w fun e w' => e = .returned (.tuple #[agL zeroL, .int .i64 (lotErr (p0, p1, numM 9 p2.data.toList, numM 9 p3.data.toList))]) ∧ Below w.heap.size w w' := by
  have n1 := fun w => numberOf p2 9 w (by decide) hl.2.2.1
  have n2 := fun w => numberOf p3 9 w (by decide) hl.2.2.2
  have hch := fun w1 => lotError_any (p0, p1, numM 9 p2.data.toList, numM 9 p3.data.toList) w1 hl.1 hl.2.1
  have hk : (0 : Int) < (lotErr (p0, p1, numM 9 p2.data.toList, numM 9 p3.data.toList) : Int) := by omega
  generalize (lotErr (p0, p1, numM 9 p2.data.toList, numM 9 p3.data.toList) : Int) = pe at *
  have hv1 : 0 ≤ numM 9 p2.data.toList := by rw [numM_yes hn1]; omega
  have hv2 : 0 ≤ numM 9 p3.data.toList := by rw [numM_yes hn2]; omega
  generalize numM 9 p2.data.toList = v1 at *
  generalize numM 9 p3.data.toList = v2 at *
  clear hn1 hn2 hl h0
  obtain ⟨s0, s1, s2, s3⟩ := hS
  have hg := cell_lt s0
  simp only at hg
  have hne : g ≠ w.heap.size := by omega
  unfold agL zeroL at *
  simp only at *
  go_enter Tryz.func17, Tryz.ntmps17
  go_wp2
  go_region_held3 (fun w' => w'.cell? ⟨g, 1, none⟩ = some (.string p0) ∧ w'.cell? ⟨g, 2, none⟩ = some (.string p1) ∧ w'.cell? ⟨g, 3, none⟩ = some (.string p2) ∧ w'.cell? ⟨g, 4, none⟩ = some (.string p3)) (go_keep)
    (first | (go_at_call_of 16 (Value.string p2); refine (n1 _).mono ?_; rintro e w2 ⟨rfl, rfl⟩) | (go_at_call_of 16 (Value.string p3); refine (n2 _).mono ?_; rintro e w3 ⟨rfl, rfl⟩))
  all_goals
    clear s0 s1 s2 s3 n1 n2
    have b0 := BoxL.new w zeroL _ rfl
    have b1 := (b0.below (boxL_below (boxL w zeroL) (p0, p1, v1, v2))).drew
    have b2 := (BoxL.new (boxL w zeroL) (p0, p1, v1, v2) (w.heap.size + 1) (by simp)).drew
    have hB : Below w.heap.size w (boxL (boxL w zeroL) (p0, p1, v1, v2)).drew := (((Below.refl _ w).alloc (Nat.le_refl _) _).alloc (by simp) _).drew
    go_wp2_with (go_at_call 25; refine (hch _).mono ?_; rintro e w4 ⟨rfl, hb4⟩; obtain ⟨hc4, hf4⟩ := bcell hb4; obtain ⟨r0, r1, r2, r3⟩ := b1.below hb4; obtain ⟨t0, t1, t2, t3⟩ := b2.below hb4; have hz4 : w.heap.size + 1 < w4.heap.size := (by have := hb4.size; simp at this; omega); have hbw4 : Below w.heap.size w w4 := hB.trans (hb4.mono hB.size))
    (try simp only [zeroL] at r0 r1 r2 r3)
    (try simp only at t0 t1 t2 t3)
    (try go_wp2)
    refine bodyPost_ret (v := .tuple #[.agg #[.string ⟨#[]⟩, .string ⟨#[]⟩, .int .i64 0, .int .i64 0], .int .i64 pe]) (by simp [results, Tryz.results17, go_sem, r0, r1, r2, r3]) rfl ⟨rfl, ?_⟩
    exact below_set4 hbw4 (Nat.le_refl _) _ _ _ _
theorem has_blank {n : Nat} {l : List UInt8} (h : isNum n l = true) : has 32 l = false := by
  unfold isNum at h
  simp only [Bool.and_eq_true] at h
  unfold has
  rw [List.any_eq_false]
  intro x hx he
  have := List.all_eq_true.1 h.2 x hx
  simp at he
  subst he
  exact absurd this (by decide)
theorem splitL_three {l : List UInt8} (h : three l = true) : splitL 32 l = cutA 32 l :: cutA 32 (cutB 32 l) :: wd2 l :: splitL 32 (wd3 l) := by
  unfold three at h
  simp only [Bool.and_eq_true] at h
  obtain ⟨h1, h2, h3⟩ := h
  unfold wd2 wd3
  rw [split_some h1, ← cutB_yes h1, split_some h2, ← cutB_yes h2, split_some h3, ← cutB_yes h3, cutA_yes h1, cutA_yes h2, cutA_yes h3]
theorem splitL_few {l : List UInt8} (h : three l = false) : (splitL 32 l).length ≠ 4 := by
  unfold three at h
  cases h1 : has 32 l with
  | false => rw [split_none h1]; simp
  | true =>
    rw [h1, Bool.true_and] at h
    rw [split_some h1, ← cutB_yes h1]
    cases h2 : has 32 (cutB 32 l) with
    | false => rw [split_none h2]; simp
    | true =>
      rw [h2, Bool.true_and] at h
      rw [split_some h2, ← cutB_yes h2, split_none h]; simp
/-- ReadLot of the words of a text. -/
theorem readLotT_any (l : List UInt8) (g cap : Nat) (w : World) (hz : l.length ≤ 100000) (hcell : ∀ p0 p1 p2 p3, splitL 32 l = [p0, p1, p2, p3] → FourT w g ⟨p0.toArray⟩ ⟨p1.toArray⟩ ⟨p2.toArray⟩ ⟨p3.toArray⟩) :
    Calls Tryz.prog 17 #[.slice (some ⟨g, 1, none⟩) (splitL 32 l).length cap] w fun e w' => e = .returned (.tuple #[agL (readL l).1, .int .i64 (readL l).2]) ∧ Below w.heap.size w w' := by
  by_cases h4 : (splitL 32 l).length = 4
  · cases ht : three l with
    | false => exact absurd h4 (splitL_few ht)
    | true =>
      have hs := splitL_three ht
      cases hb : has 32 (wd3 l) with
      | true =>
        rw [hs, split_some hb] at h4
        have := split_pos 32 (post 32 (wd3 l))
        simp only [List.length_cons] at h4
        exact absurd (List.eq_nil_of_length_eq_zero (by omega)) this
      | false =>
        rw [split_none hb] at hs
        have hS := hcell _ _ _ _ hs
        rw [h4]
        have q1 := cutB_le 32 l
        have q2 := cutB_le 32 (cutB 32 l)
        have q3 := cutA_le 32 (cutB 32 (cutB 32 l))
        have q4 := cutB_le 32 (cutB 32 (cutB 32 l))
        have q5 := cutA_le 32 l
        have q6 := cutA_le 32 (cutB 32 l)
        have hm : (100000 : Nat) ≤ maxLen := by decide
        have z0 : (⟨(cutA 32 l).toArray⟩ : ByteArray).size ≤ maxLen := by rw [mk_size]; omega
        have z1 : (⟨(cutA 32 (cutB 32 l)).toArray⟩ : ByteArray).size ≤ maxLen := by rw [mk_size]; omega
        have z2 : (⟨(wd2 l).toArray⟩ : ByteArray).size ≤ maxLen := by rw [mk_size]; unfold wd2; omega
        have z3 : (⟨(wd3 l).toArray⟩ : ByteArray).size ≤ maxLen := by rw [mk_size]; unfold wd3; omega
        cases hn : lotNum l with
        | false =>
          have e : readL l = (zeroL, 1) := by unfold readL; rw [hn]; rfl
          rw [e]
          unfold lotNum at hn
          rw [ht, Bool.true_and] at hn
          have hh := readLotT_no g cap _ _ _ _ w hS ⟨z2, z3⟩
          exact hh hn
        | true =>
          have hn' := hn
          unfold lotNum at hn'
          rw [ht, Bool.true_and, Bool.and_eq_true] at hn'
          have ep : lotOf l = (⟨(cutA 32 l).toArray⟩, ⟨(cutA 32 (cutB 32 l)).toArray⟩, numM 9 (wd2 l), numM 9 (wd3 l)) := by
            unfold lotOf
            rw [numR_yes hn'.1, numR_yes hn'.2, numM_yes hn'.1, numM_yes hn'.2]
          by_cases h0 : lotErr (lotOf l) = 0
          · have e : readL l = (lotOf l, 0) := by unfold readL; rw [if_pos hn, if_pos h0]
            rw [e, ep]
            rw [ep] at h0
            have hh := readLotT_yes g cap _ _ _ _ w hS ⟨z0, z1, z2, z3⟩
            exact hh hn'.1 hn'.2 h0
          · have e : readL l = (zeroL, lotErr (lotOf l)) := by unfold readL; rw [if_pos hn, if_neg h0]
            rw [e, ep]
            rw [ep] at h0
            have hh := readLotT_err g cap _ _ _ _ w hS ⟨z0, z1, z2, z3⟩
            exact hh hn'.1 hn'.2 h0
  · have hn : lotNum l = false := by
      cases hn : lotNum l with
      | false => rfl
      | true =>
        unfold lotNum at hn
        simp only [Bool.and_eq_true] at hn
        exact absurd (by rw [splitL_three hn.1, split_none (has_blank hn.2.2)]; rfl) h4
    have e : readL l = (zeroL, 1) := by unfold readL; rw [hn]; rfl
    rw [e]
    exact readLotT_few _ _ cap w h4
end Go.Proofs.YtgdhfipbbijngaaGreatDoor
