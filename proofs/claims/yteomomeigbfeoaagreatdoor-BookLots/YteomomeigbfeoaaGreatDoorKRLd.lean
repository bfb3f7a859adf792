/-
 What readLine answers, where all is well.
-/
import Derived.Test.YteomomeigbfeoaaGreatDoorKRLa
set_option maxRecDepth 100000
set_option maxHeartbeats 16000000
namespace Go.Proofs.YteomomeigbfeoaaGreatDoor
open Go.RowKit Go.Lib Go.Sort
theorem kline_in (x : ByteArray) (w : World) (s : Nat → Addr) (hz : x.size < 4294967281) (hs : Three w s) (h : wordsK x.data.toList = true) (h1 : isNum 13 (cutB 32 (cutB 32 x.data.toList)) = true) (h2 : (readP (cutA 32 x.data.toList)).2 = 0) (h3 : isName (cutA 32 (cutB 32 x.data.toList)) = true) (h4 : numW (numR 13 (cutB 32 (cutB 32 x.data.toList))) = true) :
  Calls Tryz.prog 71 #[.string x, .bool true] w fun e w' => e = .returned (.tuple #[agN ((readP (cutA 32 x.data.toList)).1, ⟨(cutA 32 (cutB 32 x.data.toList)).toArray⟩, numR 13 (cutB 32 (cutB 32 x.data.toList))), .nilIface]) ∧ Below w.heap.size w w' := by
 have hp := splitN3_three x (madeN w) hz h
 have hl0 : x.data.toList.length ≤ maxLen := by rw [size_len]; unfold maxLen; omega
 have q0 := cutA_le 32 x.data.toList
 have q1 := cutB_le 32 x.data.toList
 have q2 := cutA_le 32 (cutB 32 x.data.toList)
 have q3 := cutB_le 32 (cutB 32 x.data.toList)
 have hN := fun w => numRead ⟨(cutB 32 (cutB 32 x.data.toList)).toArray⟩ 13 w (by decide) (by rw [mk_size]; omega)
 have hB : Below w.heap.size w (madeN w) := (Below.refl _ w).alloc (Nat.le_refl _) _
 have hR := fun w1 (hb : Below w.heap.size w w1) => pread_any ⟨(cutA 32 x.data.toList).toArray⟩ w1 s (by rw [mk_size]; omega) (hs.below hb)
 have hM : ∀ w, Calls Tryz.prog 114 #[.string ⟨(cutA 32 (cutB 32 x.data.toList)).toArray⟩] w _ := fun w => name_any ⟨(cutA 32 (cutB 32 x.data.toList)).toArray⟩ w (by rw [mk_size]; omega)
 have hQ := fun w => numWell_any (numR 13 (cutB 32 (cutB 32 x.data.toList))) w
 rw [h4] at hQ
 simp only at hN hR
 rw [h1] at hN
 rw [h2, errP_zero] at hR
 simp only at hM
 rw [h3] at hM
 generalize numR 13 (cutB 32 (cutB 32 x.data.toList)) = nn at *
 generalize (readP (cutA 32 x.data.toList)).1 = pp at *
 generalize (⟨(cutA 32 x.data.toList).toArray⟩ : ByteArray) = zA at *
 generalize (⟨(cutA 32 (cutB 32 x.data.toList)).toArray⟩ : ByteArray) = zB at *
 generalize (⟨(cutB 32 (cutB 32 x.data.toList)).toArray⟩ : ByteArray) = zC at *
 obtain ⟨pa, pr, pb⟩ := pp
 unfold agP agN at *
 unfold madeN at *
 simp only at *
 have HP : Hid (Calls Tryz.prog 111 _ _ _) := hp
 clear hp hl0 q0 q1 q2 q3 hz h
 clear hs h1 h2 h3 h4
 go_enter Tryz.func71, Tryz.ntmps71
 go_wp2_with (first
  | (go_at_call 111; refine HP.out.mono ?_; rintro e w1 ⟨rfl, rfl⟩)
  | (go_at_call 112; refine (hN _).mono ?_; rintro e w2 ⟨rfl, rfl⟩)
  | (go_at_call 113; refine (hR _ (((Below.refl _ w).alloc (Nat.le_refl _) _).alloc (by simp) _)).mono ?_; rintro e w3 ⟨rfl, hb3⟩; obtain ⟨⟨r0, r1, r2, r3, r4⟩, hf3, v0, v1, hbw, hz3, hz4⟩ := kline_kept w w3 zA zB zC hb3; simp only [Nat.zero_add] at r0 r1 r2 r3 r4; unfold zeroN zeroP at r0 r1 r2 r3 r4; simp only at r0 r1 r2 r3 r4; clear hb3)
  | (go_at_call 114; refine (hM _).mono ?_; rintro e w4 ⟨rfl, rfl⟩)
  | (go_at_call 115; refine (hQ _).mono ?_; rintro e w5 ⟨rfl, rfl⟩))
 go_region
 go_wp2
 exact bodyPost_ret (v := .tuple #[.agg #[.string pa, .int .i64 pr, .int .i64 pb, .string zB, .int .i64 nn], .nilIface]) (by simp [results, Tryz.results71, go_sem, r0, r1, r2, r3, r4, hz4]) rfl ⟨rfl, ((below_set5 hbw (Nat.le_refl _) _ _ _ _ _).alloc (below_set5 hbw (Nat.le_refl _) _ _ _ _ _).size _).drew⟩
end Go.Proofs.YteomomeigbfeoaaGreatDoor
