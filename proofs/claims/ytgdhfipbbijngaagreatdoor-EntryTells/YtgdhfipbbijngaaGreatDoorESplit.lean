/-
  What strings.SplitN at a blank and two or three words, and wordsAndNumber at one to three words, answer, over whatever world; condition: the text is shorter than 4,294,967,281 bytes.
-/
import Derived.Test.YtgdhfipbbijngaaGreatDoorEzM
import Derived.Test.YtgdhfipbbijngaaGreatDoorEzB
namespace Go.Proofs.YtgdhfipbbijngaaGreatDoor
open Go.RowKit Go.Lib Go.Sort

theorem splitK_le : ∀ (k : Nat) (l : List UInt8), (Lib.splitK [32] 0 k l).length ≤ k + 1 := by
  intro k
  induction k with
  | zero => intro l; simp [Lib.splitK]
  | succ k ih =>
    intro l
    rw [splitK_one]
    split
    · have := ih (post 32 l); simp; omega
    · simp
theorem cutB_less {l : List UInt8} (h : has 32 l = true) : (cutB 32 l).length + 1 ≤ l.length := by
  rw [cutB_yes h, ← drop_pre, List.length_drop]
  have := pre_length_lt 32 l h
  omega
/-- Two words: few, enough. -/
theorem split2_few (l : List UInt8) (k : Nat) (hk : k ≤ 1) (h : has 32 l = false) : (Lib.splitK [32] 0 k l).length < 2 := by
  rcases Nat.lt_or_ge k 1 with hk' | hk'
  · have := splitK_le k l; omega
  · obtain rfl : k = 1 := by omega
    rw [splitK_one, h]; simp
theorem split2_yes (l : List UInt8) (h : has 32 l = true) : Lib.splitK [32] 0 1 l = [cutA 32 l, cutB 32 l] := by
  rw [splitK_one, if_pos h, ← cutB_yes h, cutA_yes h]
  rfl
theorem split3_few (l : List UInt8) (k : Nat) (hk : k ≤ 2) (h : wordsK l = false) : (Lib.splitK [32] 0 k l).length < 3 := by
  rcases Nat.lt_or_ge k 2 with hk' | hk'
  · have := splitK_le k l; omega
  · obtain rfl : k = 2 := by omega
    unfold wordsK at h
    rw [splitK_one]
    cases h1 : has 32 l with
    | false => simp
    | true =>
      rw [h1, Bool.true_and, cutB_yes h1] at h
      simp only [if_true]
      rw [splitK_one, h]; simp
theorem split3_yes (l : List UInt8) (h : wordsK l = true) : Lib.splitK [32] 0 2 l = [cutA 32 l, cutA 32 (cutB 32 l), cutB 32 (cutB 32 l)] := by
  unfold wordsK at h
  simp only [Bool.and_eq_true] at h
  obtain ⟨h1, h2⟩ := h
  rw [splitK_one, if_pos h1, ← cutB_yes h1, splitK_one, if_pos h2, ← cutB_yes h2, cutA_yes h1, cutA_yes h2]
  rfl
theorem two_data {L : List ByteArray} {a b : List UInt8} (h : L.map (·.data.toList) = [a, b]) : L = [⟨a.toArray⟩, ⟨b.toArray⟩] := by
  match L, h with
  | [x, y], h =>
    simp only [List.map_cons, List.map_nil, List.cons.injEq, and_true] at h
    obtain ⟨rfl, rfl⟩ := h
    cases x; cases y; simp
theorem three_data {L : List ByteArray} {a b c : List UInt8} (h : L.map (·.data.toList) = [a, b, c]) : L = [⟨a.toArray⟩, ⟨b.toArray⟩, ⟨c.toArray⟩] := by
  match L, h with
  | [x, y, z], h =>
    simp only [List.map_cons, List.map_nil, List.cons.injEq, and_true] at h
    obtain ⟨rfl, rfl, rfl⟩ := h
    cases x; cases y; cases z; simp
set_option maxHeartbeats 1000000 in
/-- strings.SplitN at a blank and 2. -/
theorem splitE2_any (s : ByteArray) (w : World) (hz : s.size < 4294967281) :
    Calls Tryz.prog 63 #[.string s, .string ⟨#[32]⟩, .int .i64 2] w fun e w' =>
      e = .returned (.slice (some ⟨w.heap.size, 0, none⟩) (Lib.splitB ⟨#[32]⟩ 0 (min 2 (s.size + 1) - 1) s).length (min 2 (s.size + 1) : Nat)) ∧ w' = w.alloc (.cells (Lib.cellsOf (Lib.splitB ⟨#[32]⟩ 0 (min 2 (s.size + 1) - 1) s) (min 2 (s.size + 1))) 9) := by
  have c : Calls Tryz.prog 77 #[.string s, .string ⟨#[32]⟩, .int .i64 0, .int .i64 2] w _ := Any.strings_genSplit_core Tryz.lays221 Tryz.infoStr9 s ⟨#[32]⟩ 0 2 (min 2 (s.size + 1)) w hz (by decide) (Nat.zero_le _)
    (fun x c _ => (by
      refine (Tryz.strings_Index_one x 32 _).mono fun e w' ⟨he, hw⟩ => ⟨?_, hw⟩
      rw [he, ← Lib.index_one]))
    ((by
      refine (Tryz.strings_Count_one s 32 w).mono fun e w' ⟨he, hw⟩ => ⟨?_, hw⟩
      rw [he]
      show _ = Ending.returned (Value.int .i64 ((Lib.count s.data.toList [32] : Nat) : Int))
      rw [Lib.count_one]; rfl))
    (by decide) (by decide) (by rw [if_neg (by decide)]; omega)
  generalize (Lib.splitB ⟨#[32]⟩ 0 (min 2 (s.size + 1) - 1) s) = L at *
  generalize min 2 (s.size + 1) = M at *
  have H : Hid (Calls Tryz.prog 77 _ _ _) := c
  clear c
  go_enter Tryz.func63, Tryz.ntmps63
  go_wp2_with (go_at_call 77; refine H.out.mono ?_; rintro e w1 ⟨rfl, rfl⟩)
  go_ret
  exact ⟨rfl, rfl⟩
set_option maxHeartbeats 1000000 in
/-- strings.SplitN at a blank and 3. -/
theorem splitE3_any (s : ByteArray) (w : World) (hz : s.size < 4294967281) :
    Calls Tryz.prog 63 #[.string s, .string ⟨#[32]⟩, .int .i64 3] w fun e w' =>
      e = .returned (.slice (some ⟨w.heap.size, 0, none⟩) (Lib.splitB ⟨#[32]⟩ 0 (min 3 (s.size + 1) - 1) s).length (min 3 (s.size + 1) : Nat)) ∧ w' = w.alloc (.cells (Lib.cellsOf (Lib.splitB ⟨#[32]⟩ 0 (min 3 (s.size + 1) - 1) s) (min 3 (s.size + 1))) 9) := by
  have c : Calls Tryz.prog 77 #[.string s, .string ⟨#[32]⟩, .int .i64 0, .int .i64 3] w _ := Any.strings_genSplit_core Tryz.lays221 Tryz.infoStr9 s ⟨#[32]⟩ 0 3 (min 3 (s.size + 1)) w hz (by decide) (Nat.zero_le _)
    (fun x c _ => (by
      refine (Tryz.strings_Index_one x 32 _).mono fun e w' ⟨he, hw⟩ => ⟨?_, hw⟩
      rw [he, ← Lib.index_one]))
    ((by
      refine (Tryz.strings_Count_one s 32 w).mono fun e w' ⟨he, hw⟩ => ⟨?_, hw⟩
      rw [he]
      show _ = Ending.returned (Value.int .i64 ((Lib.count s.data.toList [32] : Nat) : Int))
      rw [Lib.count_one]; rfl))
    (by decide) (by decide) (by rw [if_neg (by decide)]; omega)
  generalize (Lib.splitB ⟨#[32]⟩ 0 (min 3 (s.size + 1) - 1) s) = L at *
  generalize min 3 (s.size + 1) = M at *
  have H : Hid (Calls Tryz.prog 77 _ _ _) := c
  clear c
  go_enter Tryz.func63, Tryz.ntmps63
  go_wp2_with (go_at_call 77; refine H.out.mono ?_; rintro e w1 ⟨rfl, rfl⟩)
  go_ret
  exact ⟨rfl, rfl⟩
theorem splitE2_few (s : ByteArray) (w : World) (hz : s.size < 4294967281) (h : has 32 s.data.toList = false) :
    Calls Tryz.prog 63 #[.string s, .string ⟨#[32]⟩, .int .i64 2] w fun e w' => ∃ n m o, n < 2 ∧ e = .returned (.slice (some ⟨w.heap.size, 0, none⟩) n m) ∧ w' = w.alloc o := by
  refine (splitE2_any s w hz).mono fun e w' ⟨he, hw⟩ => ⟨_, _, _, ?_, he, hw⟩
  have e1 : (Lib.splitB ⟨#[32]⟩ 0 (min 2 (s.size + 1) - 1) s).length = ((Lib.splitB ⟨#[32]⟩ 0 (min 2 (s.size + 1) - 1) s).map (·.data.toList)).length := by simp
  rw [e1, Lib.splitB_data]
  exact split2_few _ _ (by omega) h
theorem splitE3_few (s : ByteArray) (w : World) (hz : s.size < 4294967281) (h : wordsK s.data.toList = false) :
    Calls Tryz.prog 63 #[.string s, .string ⟨#[32]⟩, .int .i64 3] w fun e w' => ∃ n m o, n < 3 ∧ e = .returned (.slice (some ⟨w.heap.size, 0, none⟩) n m) ∧ w' = w.alloc o := by
  refine (splitE3_any s w hz).mono fun e w' ⟨he, hw⟩ => ⟨_, _, _, ?_, he, hw⟩
  have e1 : (Lib.splitB ⟨#[32]⟩ 0 (min 3 (s.size + 1) - 1) s).length = ((Lib.splitB ⟨#[32]⟩ 0 (min 3 (s.size + 1) - 1) s).map (·.data.toList)).length := by simp
  rw [e1, Lib.splitB_data]
  exact split3_few _ _ (by omega) h
theorem splitE2_yes (s : ByteArray) (w : World) (hz : s.size < 4294967281) (h : has 32 s.data.toList = true) :
    Calls Tryz.prog 63 #[.string s, .string ⟨#[32]⟩, .int .i64 2] w fun e w' => e = .returned (.slice (some ⟨w.heap.size, 0, none⟩) 2 2) ∧
      w' = w.alloc (.cells #[.string ⟨(cutA 32 s.data.toList).toArray⟩, .string ⟨(cutB 32 s.data.toList).toArray⟩] 9) := by
  have h3 := cutB_less h
  rw [size_len] at h3
  have e0 : min 2 (s.size + 1) = 2 := by omega
  have eL : Lib.splitB ⟨#[32]⟩ 0 (min 2 (s.size + 1) - 1) s = _ := two_data ((Lib.splitB_data _ _ _ _).trans ((by rw [e0] : _ = Lib.splitK [32] 0 1 s.data.toList).trans (split2_yes _ h)))
  have hc := splitE2_any s w hz
  rw [eL, e0] at hc
  exact hc
theorem splitE3_yes (s : ByteArray) (w : World) (hz : s.size < 4294967281) (h : wordsK s.data.toList = true) :
    Calls Tryz.prog 63 #[.string s, .string ⟨#[32]⟩, .int .i64 3] w fun e w' => e = .returned (.slice (some ⟨w.heap.size, 0, none⟩) 3 3) ∧
      w' = w.alloc (.cells #[.string ⟨(cutA 32 s.data.toList).toArray⟩, .string ⟨(cutA 32 (cutB 32 s.data.toList)).toArray⟩, .string ⟨(cutB 32 (cutB 32 s.data.toList)).toArray⟩] 9) := by
  have h3 : 2 ≤ s.data.toList.length := by
    have h' := h
    unfold wordsK at h'
    simp only [Bool.and_eq_true] at h'
    have a := cutB_less h'.1
    have b := cutB_less h'.2
    omega
  rw [size_len] at h3
  have e0 : min 3 (s.size + 1) = 3 := by omega
  have eL : Lib.splitB ⟨#[32]⟩ 0 (min 3 (s.size + 1) - 1) s = _ := three_data ((Lib.splitB_data _ _ _ _).trans ((by rw [e0] : _ = Lib.splitK [32] 0 2 s.data.toList).trans (split3_yes _ h)))
  have hc := splitE3_any s w hz
  rw [eL, e0] at hc
  exact hc
set_option maxRecDepth 100000 in
set_option maxHeartbeats 2000000 in
theorem wn1_few (x : ByteArray) (w : World) (hz : x.size < 4294967281) (h : has 32 x.data.toList = false) :
    Calls Tryz.prog 48 #[.string x, .int .i64 1] w fun e w' => (∃ v n, e = .returned (.tuple #[v, .int .i64 n, .bool false])) ∧ ∃ o, w' = w.alloc o := by
  have hp := splitE2_few x w hz h
  have HP : Hid (Calls Tryz.prog 63 _ _ _) := hp
  clear hp h hz
  go_enter Tryz.func48, Tryz.ntmps48
  go_wp2_with (go_at_call 63; refine HP.out.mono ?_; rintro e w1 ⟨n, m, o, hn, rfl, rfl⟩; have hn' : (n : Int) ≤ 1 := (by omega))
  exact bodyPost_ret (v := .tuple #[.slice none 0 0, .int .i64 0, .bool false]) (by simp [results, Tryz.results48, go_sem]) rfl ⟨⟨_, _, rfl⟩, _, rfl⟩
set_option maxRecDepth 100000 in
set_option maxHeartbeats 2000000 in
theorem wn1_yes (x : ByteArray) (w : World) (hz : x.size < 4294967281) (h : has 32 x.data.toList = true) :
    Calls Tryz.prog 48 #[.string x, .int .i64 1] w fun e w' => e = .returned (.tuple #[.slice (some ⟨w.heap.size, 0, none⟩) 1 2, .int .i64 (numR 13 (cutB 32 x.data.toList)), .bool (isNum 13 (cutB 32 x.data.toList))]) ∧ w' = w.alloc (.cells #[.string ⟨(cutA 32 x.data.toList).toArray⟩, .string ⟨(cutB 32 x.data.toList).toArray⟩] 9) := by
  have hp := splitE2_yes x w hz h
  have hl0 : x.data.toList.length ≤ maxLen := by rw [size_len]; unfold maxLen; omega
  have q1 := cutB_le 32 x.data.toList
  have q2 := cutB_le 32 (cutB 32 x.data.toList)
  have q3 := cutB_le 32 (cutB 32 (cutB 32 x.data.toList))
  have hN := fun w => numRead ⟨(cutB 32 x.data.toList).toArray⟩ 13 w (by decide) (by rw [mk_size]; omega)
  simp only at hN
  generalize numR 13 (cutB 32 x.data.toList) = nn at *
  generalize isNum 13 (cutB 32 x.data.toList) = bb at *
  generalize (⟨(cutA 32 x.data.toList).toArray⟩ : ByteArray) = z0 at *
  generalize (⟨(cutB 32 x.data.toList).toArray⟩ : ByteArray) = z1 at *
  have HP : Hid (Calls Tryz.prog 63 _ _ _) := hp
  clear hp h hz hl0 q1 q2 q3
  go_enter Tryz.func48, Tryz.ntmps48
  go_wp2_with (first
    | (go_at_call 63; refine HP.out.mono ?_; rintro e w1 ⟨rfl, rfl⟩)
    | (go_at_call 64; refine (hN _).mono ?_; rintro e w2 ⟨rfl, rfl⟩))
  exact bodyPost_ret (v := .tuple #[.slice (some ⟨w.heap.size, 0, none⟩) 1 2, .int .i64 nn, .bool bb]) (by simp [results, Tryz.results48, go_sem]) rfl ⟨rfl, rfl⟩
set_option maxRecDepth 100000 in
set_option maxHeartbeats 2000000 in
theorem wn2_few (x : ByteArray) (w : World) (hz : x.size < 4294967281) (h : wordsK x.data.toList = false) :
    Calls Tryz.prog 48 #[.string x, .int .i64 2] w fun e w' => (∃ v n, e = .returned (.tuple #[v, .int .i64 n, .bool false])) ∧ ∃ o, w' = w.alloc o := by
  have hp := splitE3_few x w hz h
  have HP : Hid (Calls Tryz.prog 63 _ _ _) := hp
  clear hp h hz
  go_enter Tryz.func48, Tryz.ntmps48
  go_wp2_with (go_at_call 63; refine HP.out.mono ?_; rintro e w1 ⟨n, m, o, hn, rfl, rfl⟩; have hn' : (n : Int) ≤ 2 := (by omega))
  exact bodyPost_ret (v := .tuple #[.slice none 0 0, .int .i64 0, .bool false]) (by simp [results, Tryz.results48, go_sem]) rfl ⟨⟨_, _, rfl⟩, _, rfl⟩
set_option maxRecDepth 100000 in
set_option maxHeartbeats 2000000 in
theorem wn2_yes (x : ByteArray) (w : World) (hz : x.size < 4294967281) (h : wordsK x.data.toList = true) :
    Calls Tryz.prog 48 #[.string x, .int .i64 2] w fun e w' => e = .returned (.tuple #[.slice (some ⟨w.heap.size, 0, none⟩) 2 3, .int .i64 (numR 13 (cutB 32 (cutB 32 x.data.toList))), .bool (isNum 13 (cutB 32 (cutB 32 x.data.toList)))]) ∧ w' = w.alloc (.cells #[.string ⟨(cutA 32 x.data.toList).toArray⟩, .string ⟨(cutA 32 (cutB 32 x.data.toList)).toArray⟩, .string ⟨(cutB 32 (cutB 32 x.data.toList)).toArray⟩] 9) := by
  have hp := splitE3_yes x w hz h
  have hl0 : x.data.toList.length ≤ maxLen := by rw [size_len]; unfold maxLen; omega
  have q1 := cutB_le 32 x.data.toList
  have q2 := cutB_le 32 (cutB 32 x.data.toList)
  have q3 := cutB_le 32 (cutB 32 (cutB 32 x.data.toList))
  have hN := fun w => numRead ⟨(cutB 32 (cutB 32 x.data.toList)).toArray⟩ 13 w (by decide) (by rw [mk_size]; omega)
  simp only at hN
  generalize numR 13 (cutB 32 (cutB 32 x.data.toList)) = nn at *
  generalize isNum 13 (cutB 32 (cutB 32 x.data.toList)) = bb at *
  generalize (⟨(cutA 32 x.data.toList).toArray⟩ : ByteArray) = z0 at *
  generalize (⟨(cutA 32 (cutB 32 x.data.toList)).toArray⟩ : ByteArray) = z1 at *
  generalize (⟨(cutB 32 (cutB 32 x.data.toList)).toArray⟩ : ByteArray) = z2 at *
  have HP : Hid (Calls Tryz.prog 63 _ _ _) := hp
  clear hp h hz hl0 q1 q2 q3
  go_enter Tryz.func48, Tryz.ntmps48
  go_wp2_with (first
    | (go_at_call 63; refine HP.out.mono ?_; rintro e w1 ⟨rfl, rfl⟩)
    | (go_at_call 64; refine (hN _).mono ?_; rintro e w2 ⟨rfl, rfl⟩))
  exact bodyPost_ret (v := .tuple #[.slice (some ⟨w.heap.size, 0, none⟩) 2 3, .int .i64 nn, .bool bb]) (by simp [results, Tryz.results48, go_sem]) rfl ⟨rfl, rfl⟩
set_option maxRecDepth 100000 in
set_option maxHeartbeats 2000000 in
theorem wn3_few (x : ByteArray) (w : World) (hz : x.size < 4294967281) (h : three x.data.toList = false) :
    Calls Tryz.prog 48 #[.string x, .int .i64 3] w fun e w' => (∃ v n, e = .returned (.tuple #[v, .int .i64 n, .bool false])) ∧ ∃ o, w' = w.alloc o := by
  have hp := splitN_few x w hz h
  have HP : Hid (Calls Tryz.prog 63 _ _ _) := hp
  clear hp h hz
  go_enter Tryz.func48, Tryz.ntmps48
  go_wp2_with (go_at_call 63; refine HP.out.mono ?_; rintro e w1 ⟨n, m, o, hn, rfl, rfl⟩; have hn' : (n : Int) ≤ 3 := (by omega))
  exact bodyPost_ret (v := .tuple #[.slice none 0 0, .int .i64 0, .bool false]) (by simp [results, Tryz.results48, go_sem]) rfl ⟨⟨_, _, rfl⟩, _, rfl⟩
set_option maxRecDepth 100000 in
set_option maxHeartbeats 2000000 in
theorem wn3_yes (x : ByteArray) (w : World) (hz : x.size < 4294967281) (h : three x.data.toList = true) :
    Calls Tryz.prog 48 #[.string x, .int .i64 3] w fun e w' => e = .returned (.tuple #[.slice (some ⟨w.heap.size, 0, none⟩) 3 4, .int .i64 (numR 13 (wd3 x.data.toList)), .bool (isNum 13 (wd3 x.data.toList))]) ∧ w' = w.alloc (.cells #[.string ⟨(cutA 32 x.data.toList).toArray⟩, .string ⟨(cutA 32 (cutB 32 x.data.toList)).toArray⟩, .string ⟨(wd2 x.data.toList).toArray⟩, .string ⟨(wd3 x.data.toList).toArray⟩] 9) := by
  have hp := splitN_four x w hz h
  have hl0 : x.data.toList.length ≤ maxLen := by rw [size_len]; unfold maxLen; omega
  have q1 := cutB_le 32 x.data.toList
  have q2 := cutB_le 32 (cutB 32 x.data.toList)
  have q3 := cutB_le 32 (cutB 32 (cutB 32 x.data.toList))
  have hN := fun w => numRead ⟨(wd3 x.data.toList).toArray⟩ 13 w (by decide) (by rw [mk_size]; unfold wd3; omega)
  simp only at hN
  generalize numR 13 (wd3 x.data.toList) = nn at *
  generalize isNum 13 (wd3 x.data.toList) = bb at *
  generalize (⟨(cutA 32 x.data.toList).toArray⟩ : ByteArray) = z0 at *
  generalize (⟨(cutA 32 (cutB 32 x.data.toList)).toArray⟩ : ByteArray) = z1 at *
  generalize (⟨(wd2 x.data.toList).toArray⟩ : ByteArray) = z2 at *
  generalize (⟨(wd3 x.data.toList).toArray⟩ : ByteArray) = z3 at *
  have HP : Hid (Calls Tryz.prog 63 _ _ _) := hp
  clear hp h hz hl0 q1 q2 q3
  go_enter Tryz.func48, Tryz.ntmps48
  go_wp2_with (first
    | (go_at_call 63; refine HP.out.mono ?_; rintro e w1 ⟨rfl, rfl⟩)
    | (go_at_call 64; refine (hN _).mono ?_; rintro e w2 ⟨rfl, rfl⟩))
  exact bodyPost_ret (v := .tuple #[.slice (some ⟨w.heap.size, 0, none⟩) 3 4, .int .i64 nn, .bool bb]) (by simp [results, Tryz.results48, go_sem]) rfl ⟨rfl, rfl⟩
/-- Not so many words and a number behind them. -/
theorem wn1_no (x : ByteArray) (w : World) (hz : x.size < 4294967281) (h : num1 x.data.toList = false) :
    Calls Tryz.prog 48 #[.string x, .int .i64 1] w fun e w' => (∃ v n, e = .returned (.tuple #[v, .int .i64 n, .bool false])) ∧ ∃ o, w' = w.alloc o := by
  cases h1 : has 32 x.data.toList with
  | false => exact wn1_few x w hz h1
  | true =>
    have h2 : isNum 13 (cutB 32 x.data.toList) = false := by
      cases h2 : isNum 13 (cutB 32 x.data.toList) with
      | false => rfl
      | true =>
        exfalso
        have : num1 x.data.toList = true := by
          unfold num1
          skip
          skip
          unfold tail1; rw [h1, h2]; rfl
        rw [this] at h; cases h
    refine (wn1_yes x w hz h1).mono fun e w' ⟨he, hw⟩ => ⟨⟨.slice (some ⟨w.heap.size, 0, none⟩) 1 2, numR 13 (cutB 32 x.data.toList), ?_⟩, _, hw⟩
    rw [he, h2]
/-- Not so many words and a number behind them. -/
theorem wn2_no (x : ByteArray) (w : World) (hz : x.size < 4294967281) (h : num2 x.data.toList = false) :
    Calls Tryz.prog 48 #[.string x, .int .i64 2] w fun e w' => (∃ v n, e = .returned (.tuple #[v, .int .i64 n, .bool false])) ∧ ∃ o, w' = w.alloc o := by
  cases h1 : wordsK x.data.toList with
  | false => exact wn2_few x w hz h1
  | true =>
    have h2 : isNum 13 (cutB 32 (cutB 32 x.data.toList)) = false := by
      cases h2 : isNum 13 (cutB 32 (cutB 32 x.data.toList)) with
      | false => rfl
      | true =>
        exfalso
        have : num2 x.data.toList = true := by
          unfold num2
          unfold wordsK at h1
          simp only [Bool.and_eq_true] at h1
          unfold tail2; rw [h1.1, h1.2, h2]; rfl
        rw [this] at h; cases h
    refine (wn2_yes x w hz h1).mono fun e w' ⟨he, hw⟩ => ⟨⟨.slice (some ⟨w.heap.size, 0, none⟩) 2 3, numR 13 (cutB 32 (cutB 32 x.data.toList)), ?_⟩, _, hw⟩
    rw [he, h2]
/-- Not so many words and a number behind them. -/
theorem wn3_no (x : ByteArray) (w : World) (hz : x.size < 4294967281) (h : num3 x.data.toList = false) :
    Calls Tryz.prog 48 #[.string x, .int .i64 3] w fun e w' => (∃ v n, e = .returned (.tuple #[v, .int .i64 n, .bool false])) ∧ ∃ o, w' = w.alloc o := by
  cases h1 : three x.data.toList with
  | false => exact wn3_few x w hz h1
  | true =>
    have h2 : isNum 13 (wd3 x.data.toList) = false := by
      cases h2 : isNum 13 (wd3 x.data.toList) with
      | false => rfl
      | true =>
        exfalso
        have : num3 x.data.toList = true := by
          unfold num3
          unfold three at h1
          simp only [Bool.and_eq_true] at h1
          unfold tail3 tail2; unfold wd3 at h2; rw [h1.1, h1.2.1, h1.2.2, h2]; rfl
        rw [this] at h; cases h
    refine (wn3_yes x w hz h1).mono fun e w' ⟨he, hw⟩ => ⟨⟨.slice (some ⟨w.heap.size, 0, none⟩) 3 4, numR 13 (wd3 x.data.toList), ?_⟩, _, hw⟩
    rw [he, h2]
end Go.Proofs.YtgdhfipbbijngaaGreatDoor
