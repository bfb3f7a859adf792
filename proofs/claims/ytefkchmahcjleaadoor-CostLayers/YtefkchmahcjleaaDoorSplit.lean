/-
  Plain mathematics of a text that is cut by a byte, and what the reference's Cut answers: the pieces in memory of its own; condition: the text has at most 100,000 bytes.
-/
import Derived.Test.YtefkchmahcjleaaDoorItoa
import Derived.OwnWalk
namespace Go.Proofs.YtefkchmahcjleaaDoor
open Go.RowKit Go.Lib Go.Sort

def stp (c : UInt8) (st : List (List UInt8) × List UInt8) (b : UInt8) : List (List UInt8) × List UInt8 := if b = c then (st.1 ++ [st.2], []) else (st.1, st.2 ++ [b])
def sp (c : UInt8) (l : List UInt8) : List (List UInt8) × List UInt8 := l.foldl (stp c) ([], [])
/-- The pieces of a text. -/
def splitL (c : UInt8) (l : List UInt8) : List (List UInt8) := (sp c l).1 ++ [(sp c l).2]
theorem sp_snoc (c : UInt8) (l : List UInt8) (b : UInt8) : sp c (l ++ [b]) = stp c (sp c l) b := by simp [sp, List.foldl_append]
theorem fold_facts (c : UInt8) : ∀ (l : List UInt8) (d : List (List UInt8)) (cur : List UInt8),
    (l.foldl (stp c) (d, cur)).1.length + (l.foldl (stp c) (d, cur)).2.length ≤ d.length + cur.length + l.length ∧ (l.foldl (stp c) (d, cur)).2 = (cur ++ l).drop ((cur ++ l).length - (l.foldl (stp c) (d, cur)).2.length)
  | [], d, cur => by simp
  | b :: l, d, cur => by
    rw [List.foldl_cons]
    by_cases h : b = c
    · have e : stp c (d, cur) b = (d ++ [cur], []) := by unfold stp; rw [if_pos h]
      rw [e]
      obtain ⟨h1, h2⟩ := fold_facts c l (d ++ [cur]) []
      generalize l.foldl (stp c) (d ++ [cur], []) = r at *
      simp only [List.nil_append, List.length_append, List.length_singleton, List.length_nil] at h1 h2
      have h3 : r.2.length ≤ l.length := by
        rw [h2, List.length_drop]; omega
      refine ⟨by simp; omega, ?_⟩
      have e2 : cur ++ b :: l = (cur ++ [b]) ++ l := by simp
      rw [e2]
      have e3 : ((cur ++ [b]) ++ l).length - r.2.length = (cur ++ [b]).length + (l.length - r.2.length) := by simp; omega
      rw [e3, List.drop_length_add_append]
      exact h2
    · have e : stp c (d, cur) b = (d, cur ++ [b]) := by unfold stp; rw [if_neg h]
      rw [e]
      obtain ⟨h1, h2⟩ := fold_facts c l d (cur ++ [b])
      have e2 : (cur ++ [b]) ++ l = cur ++ b :: l := by simp
      rw [e2] at h2
      refine ⟨?_, h2⟩
      simp only [List.length_append, List.length_cons, List.length_nil] at h1 ⊢
      omega
theorem sp_facts (c : UInt8) (l : List UInt8) : (sp c l).1.length + (sp c l).2.length ≤ l.length ∧ (sp c l).2 = l.drop (l.length - (sp c l).2.length) := by
  have := fold_facts c l [] []
  simp only [List.nil_append, List.length_nil, Nat.zero_add] at this
  exact this
theorem sp_hit (c : UInt8) (l : List UInt8) : sp c (l ++ [c]) = ((sp c l).1 ++ [(sp c l).2], []) := by rw [sp_snoc]; unfold stp; rw [if_pos rfl]
theorem sp_miss {c b : UInt8} (l : List UInt8) (h : b ≠ c) : sp c (l ++ [b]) = ((sp c l).1, (sp c l).2 ++ [b]) := by rw [sp_snoc]; unfold stp; rw [if_neg h]
theorem fold_gen (c : UInt8) : ∀ (l : List UInt8) (d : List (List UInt8)) (cur : List UInt8), l.foldl (stp c) (d, cur) = (d ++ (l.foldl (stp c) ([], cur)).1, (l.foldl (stp c) ([], cur)).2)
  | [], d, cur => by simp
  | b :: l, d, cur => by
    rw [List.foldl_cons, List.foldl_cons]
    by_cases h : b = c
    · have e : ∀ d, stp c (d, cur) b = (d ++ [cur], []) := fun d => by unfold stp; rw [if_pos h]
      rw [e, e, fold_gen c l, fold_gen c l ([] ++ [cur])]; simp
    · have e : ∀ d, stp c (d, cur) b = (d, cur ++ [b]) := fun d => by unfold stp; rw [if_neg h]
      rw [e, e, fold_gen c l]
theorem fold_none (c : UInt8) : ∀ (l : List UInt8) (cur : List UInt8), has c l = false → l.foldl (stp c) ([], cur) = ([], cur ++ l)
  | [], cur, _ => by simp
  | b :: l, cur, h => by
    unfold has at h
    simp only [List.any_cons, Bool.or_eq_false_iff] at h
    have hb : b ≠ c := by simpa using h.1
    rw [List.foldl_cons]
    have e : stp c ([], cur) b = ([], cur ++ [b]) := by unfold stp; rw [if_neg hb]
    rw [e, fold_none c l _ h.2]; simp
theorem has_parts (c : UInt8) : ∀ (l : List UInt8), has c l = true → l = pre c l ++ c :: post c l ∧ has c (pre c l) = false
  | [], h => by simp [has] at h
  | b :: l, h => by
    by_cases hb : b = c
    · subst hb; simp [pre, post, has]
    · have h' : has c l = true := by unfold has at *; simpa [hb] using h
      obtain ⟨e1, e2⟩ := has_parts c l h'
      have e3 : pre c (b :: l) = b :: pre c l := by unfold pre; simp [hb]
      have e4 : post c (b :: l) = post c l := by unfold post; simp [hb]
      rw [e3, e4]
      refine ⟨by rw [List.cons_append, ← e1], ?_⟩
      unfold has at *
      simp [hb]
      simpa using e2
theorem split_none {c : UInt8} {l : List UInt8} (h : has c l = false) : splitL c l = [l] := by
  unfold splitL sp; rw [fold_none c l [] h]; simp
theorem split_some {c : UInt8} {l : List UInt8} (h : has c l = true) : splitL c l = pre c l :: splitL c (post c l) := by
  obtain ⟨e1, e2⟩ := has_parts c l h
  have e : sp c l = (pre c l :: (sp c (post c l)).1, (sp c (post c l)).2) := by
    unfold sp
    conv => lhs; rw [e1]
    rw [List.foldl_append, fold_none c _ [] e2, List.foldl_cons]
    have e5 : stp c ([], [] ++ pre c l) c = ([pre c l], []) := by unfold stp; simp
    rw [e5, fold_gen]; simp
  unfold splitL
  rw [e]; simp
theorem split_length (c : UInt8) (l : List UInt8) : (splitL c l).length ≤ l.length + 1 := by
  unfold splitL
  have := (sp_facts c l).1
  simp; omega
theorem extract_cur (s : ByteArray) (c : UInt8) (k : Nat) (hk : k ≤ s.size) : s.extract (k - (sp c (s.data.toList.take k)).2.length) k = ⟨(sp c (s.data.toList.take k)).2.toArray⟩ := by
  have h := (sp_facts c (s.data.toList.take k)).2
  have hl : (s.data.toList.take k).length = k := by rw [List.length_take, size_len]; omega
  rw [hl] at h
  rw [extract_eq]
  have e : (s.data.toList.drop (k - (sp c (s.data.toList.take k)).2.length)).take (k - (k - (sp c (s.data.toList.take k)).2.length)) = (sp c (s.data.toList.take k)).2 := by
    rw [← List.drop_take]
    exact h.symm
  rw [e]
/-- Pieces as strings. -/
def strs (ps : List (List UInt8)) : List Value := ps.map fun p => .string ⟨p.toArray⟩
theorem strs_snoc (ps : List (List UInt8)) (p : List UInt8) : strs ps ++ [.string ⟨p.toArray⟩] = strs (ps ++ [p]) := by unfold strs; simp
theorem strs_length (ps : List (List UInt8)) : (strs ps).length = ps.length := by unfold strs; simp
end Go.Proofs.YtefkchmahcjleaaDoor
