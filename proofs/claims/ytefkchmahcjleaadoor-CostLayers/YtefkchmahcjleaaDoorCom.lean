/-
  The sentinels of a check (ErrText, ErrBound, ErrName), the error of a number, small facts of texts that are cut: what the walks of places and of lots share.
-/
import Derived.Test.YtefkchmahcjleaaDoorCmp
import Derived.Test.YtefkchmahcjleaaDoorCutWalk
import Derived.Test.YtefkchmahcjleaaDoorCode
import Derived.Lib.QuietBelow
import Derived.Laws.Concat
namespace Go.Proofs.YtefkchmahcjleaaDoor
open Go.RowKit Go.Lib Go.Sort

/-- The two sentinels of a place's check. -/
structure Two (w : World) (s : Nat → Addr) : Prop where
  bound : w.cell? ⟨1, 0, none⟩ = some (err (s 1))
  name : w.cell? ⟨5, 0, none⟩ = some (err (s 4))
theorem Two.below {w w' : World} {s : Nat → Addr} (h : Two w s) (hb : Below w.heap.size w w') : Two w' s where
  bound := by rw [hb.cell (p := ⟨1, 0, none⟩) (cell_lt h.bound)]; exact h.bound
  name := by rw [hb.cell (p := ⟨5, 0, none⟩) (cell_lt h.name)]; exact h.name
theorem Sent.two {w : World} {s : Nat → Addr} (h : Sent w s) : Two w s := ⟨h.cell 1 (by decide), h.cell 4 (by decide)⟩

/-- The error of a number. -/
def errP (s : Nat → Addr) (code : Nat) : Value := if code = 0 then .nilIface else err (s (code - 1))

theorem errP_zero (s : Nat → Addr) : errP s 0 = .nilIface := rfl
theorem errP_pos (s : Nat → Addr) {k : Nat} (h : k ≠ 0) : errP s k = err (s (k - 1)) := by unfold errP; rw [if_neg h]
theorem name_short {a : ByteArray} (h : isName a.data.toList = true) : a.size ≤ 8 := by
  unfold isName at h; simp at h
  rw [← size_len]; simpa using h.2.2
theorem dec_size (u : Nat) (h : u < 10 ^ 13) : (⟨(decDigits u).toArray⟩ : ByteArray).size ≤ 13 := by
  have := dec_short u h
  rw [← size_len]; simpa using this
/-- ErrText, ErrBound, ErrName. -/
structure Three (w : World) (s : Nat → Addr) : Prop where
  two : Two w s
  text : w.cell? ⟨3, 0, none⟩ = some (err (s 0))
theorem Three.below {w w' : World} {s : Nat → Addr} (h : Three w s) (hb : Below w.heap.size w w') : Three w' s where
  two := h.two.below hb
  text := by rw [hb.cell (p := ⟨3, 0, none⟩) (cell_lt h.text)]; exact h.text
theorem Sent.three {w : World} {s : Nat → Addr} (h : Sent w s) : Three w s := ⟨h.two, h.cell 0 (by decide)⟩
def cutA (c : UInt8) (l : List UInt8) : List UInt8 := if has c l then pre c l else l
def cutB (c : UInt8) (l : List UInt8) : List UInt8 := if has c l then post c l else []
theorem cutA_le (c : UInt8) (l : List UInt8) : (cutA c l).length ≤ l.length := by
  unfold cutA; split
  · exact pre_length_le c l
  · exact Nat.le_refl _
theorem cutB_le (c : UInt8) (l : List UInt8) : (cutB c l).length ≤ l.length := by
  unfold cutB; split
  · rw [← drop_pre, List.length_drop]; omega
  · simp
theorem mk_size (l : List UInt8) : (⟨l.toArray⟩ : ByteArray).size = l.length := by rw [← size_len, bytes_toList]
theorem bcell {W w1 : World} (hb : Below W.heap.size W w1) : (∀ b o, b < W.heap.size → w1.cell? ⟨b, o, none⟩ = W.cell? ⟨b, o, none⟩) ∧ (∀ b o, b < W.heap.size → w1.frozen? ⟨b, o, none⟩ = W.frozen? ⟨b, o, none⟩) :=
  ⟨fun b o h => hb.cell (p := ⟨b, o, none⟩) h, fun b o h => hb.frozen (p := ⟨b, o, none⟩) h⟩
theorem split_pos (c : UInt8) (l : List UInt8) : splitL c l ≠ [] := by unfold splitL; simp
theorem isNum_ne {n : Nat} {l : List UInt8} (h : isNum n l = true) : l ≠ [] := by
  rintro rfl; rw [isNum_nil] at h; cases h
theorem cutB_no {c : UInt8} {l : List UInt8} (h : has c l = false) : cutB c l = [] := by unfold cutB; rw [h]; rfl
theorem cutB_yes {c : UInt8} {l : List UInt8} (h : has c l = true) : cutB c l = post c l := by unfold cutB; rw [if_pos h]
theorem cutA_yes {c : UInt8} {l : List UInt8} (h : has c l = true) : cutA c l = pre c l := by unfold cutA; rw [if_pos h]
theorem split_le (c : UInt8) (l : List UInt8) : ∀ p ∈ splitL c l, p.length ≤ l.length := by
  have key : ∀ n (l : List UInt8), l.length ≤ n → ∀ p ∈ splitL c l, p.length ≤ l.length := by
    intro n
    induction n with
    | zero =>
      intro l hl p hp
      have : l = [] := List.eq_nil_of_length_eq_zero (by omega)
      subst this
      rw [split_none (by rfl)] at hp
      simp at hp; subst hp; simp
    | succ n ih =>
      intro l hl p hp
      cases h : has c l with
      | false => rw [split_none h] at hp; simp at hp; subst hp; exact Nat.le_refl _
      | true =>
        rw [split_some h] at hp
        rcases List.mem_cons.1 hp with rfl | hp
        · exact pre_length_le c l
        · have hlt := pre_length_lt c l h
          have hpl : (post c l).length ≤ l.length - 1 := by rw [← drop_pre, List.length_drop]; omega
          have := ih (post c l) (by omega) p hp
          omega
  exact key _ l (Nat.le_refl _)
end Go.Proofs.YtefkchmahcjleaaDoor
