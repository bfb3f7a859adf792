/-
  What strconv.Itoa answers over a world that holds strconv's table of powers; small facts of texts.
-/
import Derived.Test.YtefkchmahcjleaaDoorNumWalk
import Derived.Lib.LaidTab
namespace Go.Proofs.YtefkchmahcjleaaDoor
open Go.RowKit Go.Lib Go.Sort
theorem isEmpty_nil {s : ByteArray} (h : s.data.toList = []) : s = ByteArray.empty := by
  cases s; simp at h; subst h; rfl
theorem size_pos_of {s : ByteArray} (h : s.data.toList ≠ []) : 1 ≤ s.size := by
  rw [← size_len]; exact List.length_pos_iff.2 h

theorem bytes_toList (l : List UInt8) : (⟨l.toArray⟩ : ByteArray).data.toList = l := by simp
theorem pre_size (c : UInt8) (s : ByteArray) (hz : s.size ≤ maxLen) : (⟨(pre c s.data.toList).toArray⟩ : ByteArray).size ≤ maxLen := by
  rw [← size_len, bytes_toList]
  have := pre_length_le c s.data.toList
  rw [size_len] at this
  omega
theorem post_size (c : UInt8) (s : ByteArray) (hz : s.size ≤ maxLen) : (⟨(post c s.data.toList).toArray⟩ : ByteArray).size ≤ maxLen := by
  rw [← size_len, bytes_toList, ← drop_pre, List.length_drop, size_len]
  omega

/-- strconv's table of powers is laid. -/
def Pow (w : World) : Prop := TabIs Tryd.prog w "internal/strconv.uint64pow10" .u64 pow10Tab
theorem Pow.below {w w' : World} (h : Pow w) (hb : Below w.heap.size w w') : Pow w' := by
  unfold Pow TabIs World.var? at *
  cases hg : Tryd.prog.globalNamed "internal/strconv.uint64pow10" with
  | none => simp [hg] at h
  | some g =>
    simp only [hg, Option.bind_some] at h ⊢
    have hlt : g < w.heap.size := by
      rcases Nat.lt_or_ge g w.heap.size with h' | h'
      · exact h'
      · simp [Array.getElem?_eq_none h'] at h
    rw [hb.block g hlt]
    exact h
theorem below_grow (w : World) (k : Nat) (os : Array Obj) : Below w.heap.size w (grow (w.drewN k) os) :=
  ⟨rfl, rfl, rfl, by show w.heap.size ≤ (w.heap ++ os).size; simp, fun j hj => by show (w.heap ++ os)[j]? = _; rw [Array.getElem?_append_left hj]⟩

theorem itoa_any (n : Int) (h0 : 0 ≤ n) (h1 : n ≤ 9223372036854775807) (w : World) (hp : Pow w) :
    Calls Tryd.prog 22 #[.int .i64 n] w fun e w' => e = .returned (.string ⟨(decDigits n.toNat).toArray⟩) ∧ Below w.heap.size w w' := by
  refine (Tryd.strconv_Itoa n (by omega) h1 w hp).mono ?_
  rintro e w' ⟨rfl, k, os, rfl⟩
  refine ⟨?_, below_grow w k os⟩
  unfold itoa
  rw [if_neg (by omega)]

theorem dec_short (u : Nat) (h : u < 10 ^ 13) : (decDigits u).length ≤ 13 := by rw [decDigits_length]; exact nDigits_le 13 u (by decide) h

theorem str_append (a b : List UInt8) : (⟨a.toArray⟩ : ByteArray) ++ ⟨b.toArray⟩ = ⟨(a ++ b).toArray⟩ := by
  apply ByteArray.ext
  simp
end Go.Proofs.YtefkchmahcjleaaDoor
