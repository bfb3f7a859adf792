/-
  What strings.SplitN at a blank and three words answers, over whatever world; condition: the text is shorter than 4,294,967,281 bytes.
-/
import Derived.Test.YtcipbkaopnaiiabGreatDoorKText
import Derived.Test.YtcipbkaopnaiiabGreatDoorGen3
import Derived.Lib.SplitLaws
namespace Go.Proofs.YtcipbkaopnaiiabGreatDoor
open Go.RowKit Go.Lib Go.Sort

theorem splitK_one (c : UInt8) (k : Nat) (l : List UInt8) : Lib.splitK [c] 0 (k + 1) l = if has c l then pre c l :: Lib.splitK [c] 0 k (post c l) else [l] := by
  rw [Lib.splitK, Lib.index_one, indexByte_eq]
  cases h : has c l with
  | false => simp
  | true =>
    have hne : ¬ (((pre c l).length : Int) == -1) = true := by simp
    simp only [if_true]
    rw [if_neg hne]
    simp only [Int.toNat_natCast, Nat.add_zero, List.length_singleton]
    rw [take_pre, drop_pre]
theorem splitK_few (l : List UInt8) (k : Nat) (hk : k ≤ 2) (h : wordsK l = false) : (Lib.splitK [32] 0 k l).length < 3 := by
  have key : ∀ k l, (Lib.splitK [32] 0 k l).length ≤ k + 1 := by
    intro k
    induction k with
    | zero => intro l; simp [Lib.splitK]
    | succ k ih =>
      intro l
      rw [splitK_one]
      split
      · have := ih (post 32 l); simp; omega
      · simp
  rcases Nat.lt_or_ge k 2 with hk' | hk'
  · have := key k l; omega
  · obtain rfl : k = 2 := by omega
    unfold wordsK at h
    rw [splitK_one]
    cases h1 : has 32 l with
    | false => simp
    | true =>
      rw [h1, Bool.true_and, cutB_yes h1] at h
      simp only [if_true]
      rw [splitK_one, h]; simp
theorem splitK_three (l : List UInt8) (h : wordsK l = true) : Lib.splitK [32] 0 2 l = [cutA 32 l, cutA 32 (cutB 32 l), cutB 32 (cutB 32 l)] := by
  unfold wordsK at h
  simp only [Bool.and_eq_true] at h
  obtain ⟨h1, h2⟩ := h
  rw [splitK_one, if_pos h1, ← cutB_yes h1, splitK_one, if_pos h2, ← cutB_yes h2, cutA_yes h1, cutA_yes h2]
  rfl
theorem words_long (l : List UInt8) (h : wordsK l = true) : 2 ≤ l.length := by
  have key : ∀ l, has 32 l = true → (cutB 32 l).length + 1 ≤ l.length := fun l h => by
    rw [cutB_yes h, ← drop_pre, List.length_drop]
    have := pre_length_lt 32 l h
    omega
  unfold wordsK at h
  simp only [Bool.and_eq_true] at h
  obtain ⟨h1, h2⟩ := h
  have a := key _ h1
  have b := key _ h2
  omega
theorem Tryz.infoStr9 : (Tryz.prog.info? 9).map (fun i => (i.zero, i.size, i.bytes)) = some (some (.string ByteArray.empty), 1, 16) := by kernel_rfl
set_option maxHeartbeats 1000000 in
/-- strings.SplitN at a blank and 3. -/
theorem splitN3_any (s : ByteArray) (w : World) (hz : s.size < 4294967281) :
    Calls Tryz.prog 76 #[.string s, .string ⟨#[32]⟩, .int .i64 3] w fun e w' =>
      e = .returned (.slice (some ⟨w.heap.size, 0, none⟩) (Lib.splitB ⟨#[32]⟩ 0 (min 3 (s.size + 1) - 1) s).length (min 3 (s.size + 1) : Nat)) ∧ w' = w.alloc (.cells (Lib.cellsOf (Lib.splitB ⟨#[32]⟩ 0 (min 3 (s.size + 1) - 1) s) (min 3 (s.size + 1))) 9) := by
  have c : Calls Tryz.prog 98 #[.string s, .string ⟨#[32]⟩, .int .i64 0, .int .i64 3] w _ := Any.strings_genSplit_core Tryz.laysSp Tryz.infoStr9 s ⟨#[32]⟩ 0 3 (min 3 (s.size + 1)) w hz (by decide) (Nat.zero_le _)
    (fun x c _ => (by
      refine (Tryz.strings_Index_one x 32 _).mono fun e w' ⟨he, hw⟩ => ⟨?_, hw⟩
      rw [he, ← Lib.index_one]))
    ((by
      refine (Tryz.strings_Count_one s 32 w).mono fun e w' ⟨he, hw⟩ => ⟨?_, hw⟩
      rw [he]
      show _ = Ending.returned (Value.int .i64 ((Lib.count s.data.toList [32] : Nat) : Int))
      rw [Lib.count_one]; rfl))
    (by decide) (by decide) (by rw [if_neg (by decide)]; omega)
  generalize (Lib.splitB ⟨#[32]⟩ 0 (min 3 (s.size + 1) - 1) s) = L at *
  generalize min 3 (s.size + 1) = M at *
  have H : Hid (Calls Tryz.prog 98 _ _ _) := c
  clear c
  go_enter Tryz.func76, Tryz.ntmps76
  go_wp2_with (go_at_call 98; refine H.out.mono ?_; rintro e w1 ⟨rfl, rfl⟩)
  go_ret
  exact ⟨rfl, rfl⟩
/-- .. of fewer than three words. -/
theorem splitN3_few (s : ByteArray) (w : World) (hz : s.size < 4294967281) (h : wordsK s.data.toList = false) :
    Calls Tryz.prog 76 #[.string s, .string ⟨#[32]⟩, .int .i64 3] w fun e w' => ∃ n m o, n < 3 ∧ e = .returned (.slice (some ⟨w.heap.size, 0, none⟩) n m) ∧ w' = w.alloc o := by
  refine (splitN3_any s w hz).mono fun e w' ⟨he, hw⟩ => ⟨_, _, _, ?_, he, hw⟩
  have e1 : (Lib.splitB ⟨#[32]⟩ 0 (min 3 (s.size + 1) - 1) s).length = ((Lib.splitB ⟨#[32]⟩ 0 (min 3 (s.size + 1) - 1) s).map (·.data.toList)).length := by simp
  rw [e1, Lib.splitB_data]
  exact splitK_few _ _ (by omega) h
theorem three_of_data {L : List ByteArray} {a b c : List UInt8} (h : L.map (·.data.toList) = [a, b, c]) : L = [⟨a.toArray⟩, ⟨b.toArray⟩, ⟨c.toArray⟩] := by
  match L, h with
  | [x, y, z], h =>
    simp only [List.map_cons, List.map_nil, List.cons.injEq, and_true] at h
    obtain ⟨rfl, rfl, rfl⟩ := h
    cases x; cases y; cases z; simp
/-- .. of three or more. -/
theorem splitN3_three (s : ByteArray) (w : World) (hz : s.size < 4294967281) (h : wordsK s.data.toList = true) :
    Calls Tryz.prog 76 #[.string s, .string ⟨#[32]⟩, .int .i64 3] w fun e w' => e = .returned (.slice (some ⟨w.heap.size, 0, none⟩) 3 3) ∧
      w' = w.alloc (.cells #[.string ⟨(cutA 32 s.data.toList).toArray⟩, .string ⟨(cutA 32 (cutB 32 s.data.toList)).toArray⟩, .string ⟨(cutB 32 (cutB 32 s.data.toList)).toArray⟩] 9) := by
  have h3 := words_long _ h
  rw [size_len] at h3
  have e0 : min 3 (s.size + 1) = 3 := by omega
  have eL : Lib.splitB ⟨#[32]⟩ 0 (min 3 (s.size + 1) - 1) s = _ := three_of_data ((Lib.splitB_data _ _ _ _).trans ((by rw [e0] : _ = Lib.splitK [32] 0 2 s.data.toList).trans (splitK_three _ h)))
  have hc := splitN3_any s w hz
  rw [eL, e0] at hc
  exact hc
end Go.Proofs.YtcipbkaopnaiiabGreatDoor
