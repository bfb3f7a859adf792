/-
  What the reference's ReadLot answers of the words of a text; condition: the text has at most 100,000 bytes.
-/
import Derived.Test.YtdlacmfejlmpdabDoorLRefRead
namespace Go.Proofs.YtdlacmfejlmpdabDoor
open Go.RowKit Go.Lib Go.Sort

theorem has_blank {n : Nat} {l : List UInt8} (h : isNum n l = true) : has 32 l = false := by
  unfold isNum at h
  simp only [Bool.and_eq_true] at h
  unfold has
  rw [List.any_eq_false]
  intro x hx he
  have := List.all_eq_true.1 h.2 x hx
  simp at he
  subst he
  exact absurd this (by decide)
theorem splitL_three {l : List UInt8} (h : three l = true) : splitL 32 l = cutA 32 l :: cutA 32 (cutB 32 l) :: wd2 l :: splitL 32 (wd3 l) := by
  unfold three at h
  simp only [Bool.and_eq_true] at h
  obtain ⟨h1, h2, h3⟩ := h
  unfold wd2 wd3
  rw [split_some h1, ← cutB_yes h1, split_some h2, ← cutB_yes h2, split_some h3, ← cutB_yes h3, cutA_yes h1, cutA_yes h2, cutA_yes h3]
theorem splitL_few {l : List UInt8} (h : three l = false) : (splitL 32 l).length ≠ 4 := by
  unfold three at h
  cases h1 : has 32 l with
  | false => rw [split_none h1]; simp
  | true =>
    rw [h1, Bool.true_and] at h
    rw [split_some h1, ← cutB_yes h1]
    cases h2 : has 32 (cutB 32 l) with
    | false => rw [split_none h2]; simp
    | true =>
      rw [h2, Bool.true_and] at h
      rw [split_some h2, ← cutB_yes h2, split_none h]; simp
theorem four_cells {w1 : World} {B g cap : Nat} {p0 p1 p2 p3 : List UInt8} (h : w1.ownsRow B 9 1 (.slice (some ⟨g, 0, none⟩) 4 cap) 4 (strs [p0, p1, p2, p3])) : FourS w1 g ⟨p0.toArray⟩ ⟨p1.toArray⟩ ⟨p2.toArray⟩ ⟨p3.toArray⟩ :=
  ⟨(h.cellAt 0 (by decide)).trans rfl, (h.cellAt 1 (by decide)).trans rfl, (h.cellAt 2 (by decide)).trans rfl, (h.cellAt 3 (by decide)).trans rfl⟩
/-- ReadLot of the words of a text. -/
theorem readLot_any (l : List UInt8) (B g cap : Nat) (w : World) (hz : l.length ≤ 100000) (hown : w.ownsRow B 9 1 (.slice (some ⟨g, 0, none⟩) (splitL 32 l).length cap) (splitL 32 l).length (strs (splitL 32 l))) :
    Calls Tryd.prog 7 #[.slice (some ⟨g, 0, none⟩) (splitL 32 l).length cap] w fun e w' => e = .returned (.tuple #[agL (readL l).1, .int .i64 (readL l).2]) ∧ Below w.heap.size w w' := by
  by_cases h4 : (splitL 32 l).length = 4
  · cases ht : three l with
    | false => exact absurd h4 (splitL_few ht)
    | true =>
      have hs := splitL_three ht
      cases hb : has 32 (wd3 l) with
      | true =>
        rw [hs, split_some hb] at h4
        have := split_pos 32 (post 32 (wd3 l))
        simp only [List.length_cons] at h4
        exact absurd (List.eq_nil_of_length_eq_zero (by omega)) this
      | false =>
        rw [split_none hb] at hs
        rw [hs] at hown
        have hS := four_cells hown
        rw [h4]
        have q1 := cutB_le 32 l
        have q2 := cutB_le 32 (cutB 32 l)
        have q3 := cutA_le 32 (cutB 32 (cutB 32 l))
        have q4 := cutB_le 32 (cutB 32 (cutB 32 l))
        have q5 := cutA_le 32 l
        have q6 := cutA_le 32 (cutB 32 l)
        have hm : (100000 : Nat) ≤ maxLen := by decide
        have z0 : (⟨(cutA 32 l).toArray⟩ : ByteArray).size ≤ maxLen := by rw [mk_size]; omega
        have z1 : (⟨(cutA 32 (cutB 32 l)).toArray⟩ : ByteArray).size ≤ maxLen := by rw [mk_size]; omega
        have z2 : (⟨(wd2 l).toArray⟩ : ByteArray).size ≤ maxLen := by rw [mk_size]; unfold wd2; omega
        have z3 : (⟨(wd3 l).toArray⟩ : ByteArray).size ≤ maxLen := by rw [mk_size]; unfold wd3; omega
        cases hn : lotNum l with
        | false =>
          have e : readL l = (zeroL, 1) := by unfold readL; rw [hn]; rfl
          rw [e]
          unfold lotNum at hn
          rw [ht, Bool.true_and] at hn
          have hh := readLot_no g cap _ _ _ _ w hS ⟨z2, z3⟩
          exact hh hn
        | true =>
          have hn' := hn
          unfold lotNum at hn'
          rw [ht, Bool.true_and, Bool.and_eq_true] at hn'
          have ep : lotOf l = (⟨(cutA 32 l).toArray⟩, ⟨(cutA 32 (cutB 32 l)).toArray⟩, numM 9 (wd2 l), numM 9 (wd3 l)) := by
            unfold lotOf
            rw [numR_yes hn'.1, numR_yes hn'.2, numM_yes hn'.1, numM_yes hn'.2]
          by_cases h0 : lotErr (lotOf l) = 0
          · have e : readL l = (lotOf l, 0) := by unfold readL; rw [if_pos hn, if_pos h0]
            rw [e, ep]
            rw [ep] at h0
            have hh := readLot_yes g cap _ _ _ _ w hS ⟨z0, z1, z2, z3⟩
            exact hh hn'.1 hn'.2 h0
          · have e : readL l = (zeroL, lotErr (lotOf l)) := by unfold readL; rw [if_pos hn, if_neg h0]
            rw [e, ep]
            rw [ep] at h0
            have hh := readLot_err g cap _ _ _ _ w hS ⟨z0, z1, z2, z3⟩
            exact hh hn'.1 hn'.2 h0
  · have hn : lotNum l = false := by
      cases hn : lotNum l with
      | false => rfl
      | true =>
        unfold lotNum at hn
        simp only [Bool.and_eq_true] at hn
        exact absurd (by rw [splitL_three hn.1, split_none (has_blank hn.2.2)]; rfl) h4
    have e : readL l = (zeroL, 1) := by unfold readL; rw [hn]; rfl
    rw [e]
    exact readLot_few g _ cap w h4
end Go.Proofs.YtdlacmfejlmpdabDoor
