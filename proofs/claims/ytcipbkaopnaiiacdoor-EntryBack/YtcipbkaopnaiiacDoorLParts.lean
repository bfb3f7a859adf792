/-
  What strings.SplitN at a blank and four words, and lot.parts answer, over whatever world; condition: the text is no longer than a string may be.
-/
import Derived.Test.YtcipbkaopnaiiacDoorLCheck
import Derived.Test.YtcipbkaopnaiiacDoorGen2
import Derived.Deep.RegionHeld3
import Derived.Lib.SplitLaws
namespace Go.Proofs.YtcipbkaopnaiiacDoor
open Go.RowKit Go.Lib Go.Sort

/-- Are there three blanks or more? -/
def three (l : List UInt8) : Bool := has 32 l && (has 32 (cutB 32 l) && has 32 (cutB 32 (cutB 32 l)))
/-- The four words. -/
def wd2 (l : List UInt8) : List UInt8 := cutA 32 (cutB 32 (cutB 32 l))
def wd3 (l : List UInt8) : List UInt8 := cutB 32 (cutB 32 (cutB 32 l))
/-- Are there four words, day and cost numbers? -/
def lotNum (l : List UInt8) : Bool := three l && (isNum 9 (wd2 l) && isNum 9 (wd3 l))
def lotOf (l : List UInt8) : Lo := (⟨(cutA 32 l).toArray⟩, ⟨(cutA 32 (cutB 32 l)).toArray⟩, numR 9 (wd2 l), numR 9 (wd3 l))
def zeroL : Lo := (⟨#[]⟩, ⟨#[]⟩, 0, 0)
/-- A text as a lot, and the number of its error. -/
def readL (l : List UInt8) : Lo × Nat := if lotNum l then (if lotErr (lotOf l) = 0 then (lotOf l, 0) else (zeroL, lotErr (lotOf l))) else (zeroL, 1)
theorem readL_code (l : List UInt8) : (readL l).2 ≤ 12 := by
  unfold readL; split
  · split
    · exact Nat.zero_le _
    · exact lotErr_le _
  · decide
theorem splitK_one (c : UInt8) (k : Nat) (l : List UInt8) : Lib.splitK [c] 0 (k + 1) l = if has c l then pre c l :: Lib.splitK [c] 0 k (post c l) else [l] := by
  rw [Lib.splitK, Lib.index_one, indexByte_eq]
  cases h : has c l with
  | false => simp
  | true =>
    have hne : ¬ (((pre c l).length : Int) == -1) = true := by simp
    simp only [if_true]
    rw [if_neg hne]
    simp only [Int.toNat_natCast, Nat.add_zero, List.length_singleton]
    rw [take_pre, drop_pre]
theorem splitK_few (l : List UInt8) (k : Nat) (hk : k ≤ 3) (h : three l = false) : (Lib.splitK [32] 0 k l).length < 4 := by
  have key : ∀ k l, (Lib.splitK [32] 0 k l).length ≤ k + 1 := by
    intro k
    induction k with
    | zero => intro l; simp [Lib.splitK]
    | succ k ih =>
      intro l
      rw [splitK_one]
      split
      · have := ih (post 32 l); simp; omega
      · simp
  rcases Nat.lt_or_ge k 3 with hk' | hk'
  · have := key k l; omega
  · obtain rfl : k = 3 := by omega
    unfold three at h
    rw [splitK_one]
    cases h1 : has 32 l with
    | false => simp
    | true =>
      rw [h1, Bool.true_and, cutB_yes h1] at h
      simp only [if_true]
      rw [splitK_one]
      cases h2 : has 32 (post 32 l) with
      | false => simp
      | true =>
        rw [h2, Bool.true_and, cutB_yes h2] at h
        simp only [if_true]
        rw [splitK_one, h]; simp
theorem splitK_four (l : List UInt8) (h : three l = true) : Lib.splitK [32] 0 3 l = [cutA 32 l, cutA 32 (cutB 32 l), wd2 l, wd3 l] := by
  unfold three at h
  simp only [Bool.and_eq_true] at h
  obtain ⟨h1, h2, h3⟩ := h
  unfold wd2 wd3
  rw [splitK_one, if_pos h1, ← cutB_yes h1, splitK_one, if_pos h2, ← cutB_yes h2, splitK_one, if_pos h3, ← cutB_yes h3, cutA_yes h1, cutA_yes h2, cutA_yes h3]
  rfl
theorem three_long (l : List UInt8) (h : three l = true) : 3 ≤ l.length := by
  have key : ∀ l, has 32 l = true → (cutB 32 l).length + 1 ≤ l.length := fun l h => by
    rw [cutB_yes h, ← drop_pre, List.length_drop]
    have := pre_length_lt 32 l h
    omega
  unfold three at h
  simp only [Bool.and_eq_true] at h
  obtain ⟨h1, h2, h3⟩ := h
  have a := key _ h1
  have b := key _ h2
  have c := key _ h3
  omega
theorem Tryd.infoStr9 : (Tryd.prog.info? 9).map (fun i => (i.zero, i.size, i.bytes)) = some (some (.string ByteArray.empty), 1, 16) := by kernel_rfl
set_option maxHeartbeats 1000000 in
/-- strings.SplitN at a blank and 4. -/
theorem splitN_any (s : ByteArray) (w : World) (hz : s.size < 4294967281) :
    Calls Tryd.prog 35 #[.string s, .string ⟨#[32]⟩, .int .i64 4] w fun e w' =>
      e = .returned (.slice (some ⟨w.heap.size, 0, none⟩) (Lib.splitB ⟨#[32]⟩ 0 (min 4 (s.size + 1) - 1) s).length (min 4 (s.size + 1) : Nat)) ∧ w' = w.alloc (.cells (Lib.cellsOf (Lib.splitB ⟨#[32]⟩ 0 (min 4 (s.size + 1) - 1) s) (min 4 (s.size + 1))) 9) := by
  have c : Calls Tryd.prog 46 #[.string s, .string ⟨#[32]⟩, .int .i64 0, .int .i64 4] w _ := Any.strings_genSplit_core Tryd.lays221 Tryd.infoStr9 s ⟨#[32]⟩ 0 4 (min 4 (s.size + 1)) w hz (by decide) (Nat.zero_le _)
    (fun x c _ => (by
      refine (Tryd.strings_Index_one x 32 _).mono fun e w' ⟨he, hw⟩ => ⟨?_, hw⟩
      rw [he, ← Lib.index_one]))
    ((by
      refine (Tryd.strings_Count_one s 32 w).mono fun e w' ⟨he, hw⟩ => ⟨?_, hw⟩
      rw [he]
      show _ = Ending.returned (Value.int .i64 ((Lib.count s.data.toList [32] : Nat) : Int))
      rw [Lib.count_one]; rfl))
    (by decide) (by decide) (by rw [if_neg (by decide)]; omega)
  generalize (Lib.splitB ⟨#[32]⟩ 0 (min 4 (s.size + 1) - 1) s) = L at *
  generalize min 4 (s.size + 1) = M at *
  have H : Hid (Calls Tryd.prog 46 _ _ _) := c
  clear c
  go_enter Tryd.func35, Tryd.ntmps35
  go_wp2_with (go_at_call 46; refine H.out.mono ?_; rintro e w1 ⟨rfl, rfl⟩)
  go_ret
  exact ⟨rfl, rfl⟩
/-- .. of fewer than four words. -/
theorem splitN_few (s : ByteArray) (w : World) (hz : s.size < 4294967281) (h : three s.data.toList = false) :
    Calls Tryd.prog 35 #[.string s, .string ⟨#[32]⟩, .int .i64 4] w fun e w' => ∃ n m o, n < 4 ∧ e = .returned (.slice (some ⟨w.heap.size, 0, none⟩) n m) ∧ w' = w.alloc o := by
  refine (splitN_any s w hz).mono fun e w' ⟨he, hw⟩ => ⟨_, _, _, ?_, he, hw⟩
  have e1 : (Lib.splitB ⟨#[32]⟩ 0 (min 4 (s.size + 1) - 1) s).length = ((Lib.splitB ⟨#[32]⟩ 0 (min 4 (s.size + 1) - 1) s).map (·.data.toList)).length := by simp
  rw [e1, Lib.splitB_data]
  exact splitK_few _ _ (by omega) h
theorem four_of_data {L : List ByteArray} {a b c d : List UInt8} (h : L.map (·.data.toList) = [a, b, c, d]) : L = [⟨a.toArray⟩, ⟨b.toArray⟩, ⟨c.toArray⟩, ⟨d.toArray⟩] := by
  match L, h with
  | [x, y, z, t], h =>
    simp only [List.map_cons, List.map_nil, List.cons.injEq, and_true] at h
    obtain ⟨rfl, rfl, rfl, rfl⟩ := h
    cases x; cases y; cases z; cases t; simp
/-- .. of four or more. -/
theorem splitN_four (s : ByteArray) (w : World) (hz : s.size < 4294967281) (h : three s.data.toList = true) :
    Calls Tryd.prog 35 #[.string s, .string ⟨#[32]⟩, .int .i64 4] w fun e w' => e = .returned (.slice (some ⟨w.heap.size, 0, none⟩) 4 4) ∧
      w' = w.alloc (.cells #[.string ⟨(cutA 32 s.data.toList).toArray⟩, .string ⟨(cutA 32 (cutB 32 s.data.toList)).toArray⟩, .string ⟨(wd2 s.data.toList).toArray⟩, .string ⟨(wd3 s.data.toList).toArray⟩] 9) := by
  have h3 := three_long _ h
  rw [size_len] at h3
  have e0 : min 4 (s.size + 1) = 4 := by omega
  have eL : Lib.splitB ⟨#[32]⟩ 0 (min 4 (s.size + 1) - 1) s = _ := four_of_data ((Lib.splitB_data _ _ _ _).trans ((by rw [e0] : _ = Lib.splitK [32] 0 3 s.data.toList).trans (splitK_four _ h)))
  have hc := splitN_any s w hz
  rw [eL, e0] at hc
  exact hc
end Go.Proofs.YtcipbkaopnaiiacDoor
