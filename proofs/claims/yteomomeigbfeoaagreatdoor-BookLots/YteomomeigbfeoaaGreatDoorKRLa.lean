/-
 What readLine answers: a line, or an error and no line; nothing old is turned; condition: the text is shorter than 4,294,967,281 bytes.
-/
import Derived.Test.YteomomeigbfeoaaGreatDoorJz3
import Derived.Test.YteomomeigbfeoaaGreatDoorJz2
import Derived.Deep.RegionHeld3
set_option maxRecDepth 100000
set_option maxHeartbeats 16000000
namespace Go.Proofs.YteomomeigbfeoaaGreatDoor
open Go.RowKit Go.Lib Go.Sort
abbrev madeN (w : World) : World := w.alloc (.cells #[.string ⟨#[]⟩, .int .i64 0, .int .i64 0, .string ⟨#[]⟩, .int .i64 0] 70)
theorem below_set5 {B n : Nat} {w W : World} (hb : Below B w W) (hn : B ≤ n) (a b c d e : Value) : Below B w (((((W.setCell ⟨n, 0, none⟩ a).setCell ⟨n, 1, none⟩ b).setCell ⟨n, 2, none⟩ c).setCell ⟨n, 3, none⟩ d).setCell ⟨n, 4, none⟩ e) :=
 ((((hb.setCell (p := ⟨n, 0, none⟩) hn _).setCell (p := ⟨n, 1, none⟩) hn _).setCell (p := ⟨n, 2, none⟩) hn _).setCell (p := ⟨n, 3, none⟩) hn _).setCell (p := ⟨n, 4, none⟩) hn _
theorem kline_kept (w w3 : World) (zA zB zC : ByteArray) (hb : Below ((madeN w).alloc (.cells #[.string zA, .string zB, .string zC] 9)).heap.size ((madeN w).alloc (.cells #[.string zA, .string zB, .string zC] 9)) w3) :
  LineAt w3 w.heap.size 0 zeroN ∧ (∀ o, w3.frozen? ⟨w.heap.size, o, none⟩ = false) ∧ w3.cell? ⟨w.heap.size + 1, 0, none⟩ = some (.string zA) ∧ w3.cell? ⟨w.heap.size + 1, 1, none⟩ = some (.string zB) ∧ Below w.heap.size w w3 ∧ w.heap.size + 1 < w3.heap.size ∧ w.heap.size < w3.heap.size := by
 have hsz : w.heap.size + 1 < ((madeN w).alloc (.cells #[.string zA, .string zB, .string zC] 9)).heap.size := by simp
 have hB2 : Below w.heap.size w ((madeN w).alloc (.cells #[.string zA, .string zB, .string zC] 9)) := ((Below.refl _ w).alloc (Nat.le_refl _) _).alloc (by simp) _
 refine ⟨((LineAt.new w zeroN 70 _ rfl).below ((Below.refl _ _).alloc (Nat.le_refl _) _)).below hb, fun o => ?_, ?_, ?_, hB2.trans (hb.mono hB2.size), ?_, ?_⟩
 ·have hblk : ((madeN w).alloc (.cells #[.string zA, .string zB, .string zC] 9)).heap[w.heap.size]? = some (.cells #[.string ⟨#[]⟩, .int .i64 0, .int .i64 0, .string ⟨#[]⟩, .int .i64 0] 70) := (RowKit.Below.heap_alloc (madeN w) _ w.heap.size (by simp)).trans (heap_alloc_new w _)
  rw [hb.frozen (p := ⟨w.heap.size, o, none⟩) (by simp; omega)]
  simp [World.frozen?, hblk]
 ·rw [hb.cell (p := ⟨w.heap.size + 1, 0, none⟩) hsz, World.cell?_alloc_at _ _ _ _ (by simp)]; rfl
 ·rw [hb.cell (p := ⟨w.heap.size + 1, 1, none⟩) hsz, World.cell?_alloc_at _ _ _ _ (by simp)]; rfl
 ·have := hb.size; omega
 ·have := hb.size; omega
theorem splitN3_some (x : ByteArray) (w : World) (hz : x.size < 4294967281) :
  Calls Tryz.prog 111 #[.string x, .string ⟨#[32]⟩, .int .i64 3] w fun e w' => ∃ (n m : Nat) (o : Obj), e = .returned (.slice (some ⟨w.heap.size, 0, none⟩) n m) ∧ w' = w.alloc o :=
 (splitN3_any x w hz).mono fun _ _ ⟨he, hw⟩ => ⟨_, _, _, he, hw⟩
theorem kline_cut (x : ByteArray) (w : World) (s : Nat → Addr) (hz : x.size < 4294967281) (hs : Three w s) :
  Calls Tryz.prog 71 #[.string x, .bool false] w fun e w' => e = .returned (.tuple #[agN zeroN, err (s 0)]) ∧ Below w.heap.size w w' := by
 have hp := splitN3_some x (madeN w) hz
 have hT : ∀ o, ((madeN w).alloc o).cell? ⟨6, 0, none⟩ = some (err (s 0)) := fun o => (hs.below (((Below.refl _ w).alloc (Nat.le_refl _) _).alloc (by simp) _)).text
 unfold agN zeroN zeroP madeN at *
 simp only at *
 have HP : Hid (Calls Tryz.prog 111 _ _ _) := hp
 clear hp hz hs
 go_enter Tryz.func71, Tryz.ntmps71
 go_wp2_with (go_at_call 111; refine HP.out.mono ?_; rintro e w1 ⟨n, m, o, rfl, rfl⟩)
 have hTo := hT o
 go_region
 go_wp2
 exact bodyPost_ret (v := .tuple #[.agg #[.string ⟨#[]⟩, .int .i64 0, .int .i64 0, .string ⟨#[]⟩, .int .i64 0], err (s 0)]) (by simp [results, Tryz.results71, go_sem]) rfl ⟨rfl, (((Below.refl _ w).alloc (Nat.le_refl _) _).alloc (by simp) _).drew⟩
theorem kline_few (x : ByteArray) (w : World) (s : Nat → Addr) (hz : x.size < 4294967281) (hs : Three w s) (h : wordsK x.data.toList = false) :
  Calls Tryz.prog 71 #[.string x, .bool true] w fun e w' => e = .returned (.tuple #[agN zeroN, err (s 0)]) ∧ Below w.heap.size w w' := by
 have hp := splitN3_few x (madeN w) hz h
 have hT : ∀ o, ((madeN w).alloc o).cell? ⟨6, 0, none⟩ = some (err (s 0)) := fun o => (hs.below (((Below.refl _ w).alloc (Nat.le_refl _) _).alloc (by simp) _)).text
 unfold agN zeroN zeroP madeN at *
 simp only at *
 have HP : Hid (Calls Tryz.prog 111 _ _ _) := hp
 clear hp hz hs
 go_enter Tryz.func71, Tryz.ntmps71
 go_wp2_with (go_at_call 111; refine HP.out.mono ?_; rintro e w1 ⟨n, m, o, hn, rfl, rfl⟩)
 have hTo := hT o
 go_region
 go_wp2
 exact bodyPost_ret (v := .tuple #[.agg #[.string ⟨#[]⟩, .int .i64 0, .int .i64 0, .string ⟨#[]⟩, .int .i64 0], err (s 0)]) (by simp [results, Tryz.results71, go_sem]) rfl ⟨rfl, (((Below.refl _ w).alloc (Nat.le_refl _) _).alloc (by simp) _).drew⟩
theorem kline_num (x : ByteArray) (w : World) (s : Nat → Addr) (hz : x.size < 4294967281) (hs : Three w s) (h : wordsK x.data.toList = true) (h1 : isNum 13 (cutB 32 (cutB 32 x.data.toList)) = false) :
  Calls Tryz.prog 71 #[.string x, .bool true] w fun e w' => e = .returned (.tuple #[agN zeroN, err (s 0)]) ∧ Below w.heap.size w w' := by
 have hp := splitN3_three x (madeN w) hz h
 have hl0 : x.data.toList.length ≤ maxLen := by rw [size_len]; unfold maxLen; omega
 have q0 := cutA_le 32 x.data.toList
 have q1 := cutB_le 32 x.data.toList
 have q2 := cutA_le 32 (cutB 32 x.data.toList)
 have q3 := cutB_le 32 (cutB 32 x.data.toList)
 have hN := fun w => numRead ⟨(cutB 32 (cutB 32 x.data.toList)).toArray⟩ 13 w (by decide) (by rw [mk_size]; omega)
 have hB : Below w.heap.size w (madeN w) := (Below.refl _ w).alloc (Nat.le_refl _) _
 have hT : ∀ o, ((madeN w).alloc o).cell? ⟨6, 0, none⟩ = some (err (s 0)) := fun o => (hs.below (hB.alloc hB.size _)).text
 simp only at hN
 rw [h1] at hN
 generalize (⟨(cutA 32 x.data.toList).toArray⟩ : ByteArray) = zA at *
 generalize (⟨(cutA 32 (cutB 32 x.data.toList)).toArray⟩ : ByteArray) = zB at *
 generalize (⟨(cutB 32 (cutB 32 x.data.toList)).toArray⟩ : ByteArray) = zC at *
 generalize numR 13 (cutB 32 (cutB 32 x.data.toList)) = nn at *
 unfold agN zeroN zeroP at *
 unfold madeN at *
 simp only at *
 have HP : Hid (Calls Tryz.prog 111 _ _ _) := hp
 clear hp hl0 q0 q1 q2 q3 hz h
 clear hs h1
 go_enter Tryz.func71, Tryz.ntmps71
 go_wp2_with (first
  | (go_at_call 111; refine HP.out.mono ?_; rintro e w1 ⟨rfl, rfl⟩)
  | (go_at_call 112; refine (hN _).mono ?_; rintro e w2 ⟨rfl, rfl⟩))
 have hTo := hT (.cells #[.string zA, .string zB, .string zC] 9)
 go_region
 go_wp2
 exact bodyPost_ret (v := .tuple #[.agg #[.string ⟨#[]⟩, .int .i64 0, .int .i64 0, .string ⟨#[]⟩, .int .i64 0], err (s 0)]) (by simp [results, Tryz.results71, go_sem]) rfl ⟨rfl, (((Below.refl _ w).alloc (Nat.le_refl _) _).alloc (by simp) _).drew⟩
theorem kline_place (x : ByteArray) (w : World) (s : Nat → Addr) (hz : x.size < 4294967281) (hs : Three w s) (h : wordsK x.data.toList = true) (h1 : isNum 13 (cutB 32 (cutB 32 x.data.toList)) = true) (h2 : (readP (cutA 32 x.data.toList)).2 ≠ 0) :
  Calls Tryz.prog 71 #[.string x, .bool true] w fun e w' => e = .returned (.tuple #[agN zeroN, errP s (readP (cutA 32 x.data.toList)).2]) ∧ Below w.heap.size w w' := by
 have hp := splitN3_three x (madeN w) hz h
 have hl0 : x.data.toList.length ≤ maxLen := by rw [size_len]; unfold maxLen; omega
 have q0 := cutA_le 32 x.data.toList
 have q1 := cutB_le 32 x.data.toList
 have q2 := cutA_le 32 (cutB 32 x.data.toList)
 have q3 := cutB_le 32 (cutB 32 x.data.toList)
 have hN := fun w => numRead ⟨(cutB 32 (cutB 32 x.data.toList)).toArray⟩ 13 w (by decide) (by rw [mk_size]; omega)
 have hB : Below w.heap.size w (madeN w) := (Below.refl _ w).alloc (Nat.le_refl _) _
 have hR := fun w1 (hb : Below w.heap.size w w1) => pread_any ⟨(cutA 32 x.data.toList).toArray⟩ w1 s (by rw [mk_size]; omega) (hs.below hb)
 simp only at hN hR
 rw [h1] at hN
 rw [errP_pos s h2] at hR ⊢
 generalize s ((readP (cutA 32 x.data.toList)).2 - 1) = ad at *
 generalize (readP (cutA 32 x.data.toList)).1 = pp at *
 generalize (⟨(cutA 32 x.data.toList).toArray⟩ : ByteArray) = zA at *
 generalize (⟨(cutA 32 (cutB 32 x.data.toList)).toArray⟩ : ByteArray) = zB at *
 generalize (⟨(cutB 32 (cutB 32 x.data.toList)).toArray⟩ : ByteArray) = zC at *
 generalize numR 13 (cutB 32 (cutB 32 x.data.toList)) = nn at *
 unfold agN zeroN zeroP at *
 obtain ⟨pa, pr, pb⟩ := pp
 unfold agP at *
 unfold madeN at *
 simp only at *
 have HP : Hid (Calls Tryz.prog 111 _ _ _) := hp
 clear hp hl0 q0 q1 q2 q3 hz h
 clear hs h1 h2
 go_enter Tryz.func71, Tryz.ntmps71
 go_wp2_with (first
  | (go_at_call 111; refine HP.out.mono ?_; rintro e w1 ⟨rfl, rfl⟩)
  | (go_at_call 112; refine (hN _).mono ?_; rintro e w2 ⟨rfl, rfl⟩)
  | (go_at_call 113; refine (hR _ (((Below.refl _ w).alloc (Nat.le_refl _) _).alloc (by simp) _)).mono ?_; rintro e w3 ⟨rfl, hb3⟩; obtain ⟨⟨r0, r1, r2, r3, r4⟩, hf3, v0, v1, hbw, hz3, hz4⟩ := kline_kept w w3 zA zB zC hb3; simp only [Nat.zero_add] at r0 r1 r2 r3 r4; unfold zeroN zeroP at r0 r1 r2 r3 r4; simp only at r0 r1 r2 r3 r4; clear hb3))
 exact bodyPost_ret (v := .tuple #[.agg #[.string ⟨#[]⟩, .int .i64 0, .int .i64 0, .string ⟨#[]⟩, .int .i64 0], err ad]) (by simp [results, Tryz.results71, go_sem, r0, r1, r2, r3, r4, hz4]) rfl ⟨rfl, (below_set5 hbw (Nat.le_refl _) _ _ _ _ _).alloc (below_set5 hbw (Nat.le_refl _) _ _ _ _ _).size _⟩
end Go.Proofs.YteomomeigbfeoaaGreatDoor
