/-
  What readPieces answers of an entry of pieces with one place; over every world that holds the sentinels as the program lays them; condition: the text is shorter than 4,294,967,281 bytes.
-/
import Derived.Test.YtgdhfipbbijngaaGreatDoorEReadA
import Derived.RegionTactic
namespace Go.Proofs.YtgdhfipbbijngaaGreatDoor
open Go.RowKit Go.Lib Go.Sort

set_option maxRecDepth 100000 in
set_option maxHeartbeats 4000000 in
theorem rp_to_no (k x : ByteArray) (w : World) (s : Nat → Addr) (hz : x.size < 4294967281) (hs : Es w s) (hk : k = kIn ∨ k = kMore) (h : num2 x.data.toList = false) :
    Calls Tryz.prog 37 #[.string k, .string x] w fun e w' => e = .returned (.tuple #[agE zeroE, err (s 0)]) ∧ Below w.heap.size w w' := by
  have hPl := fun w1 (h0 : w1.cell? ⟨w.heap.size + 1, 0, none⟩ = some (.string k)) => places_to k (w.heap.size + 1) w1 hk h0
  have hp := fun w1 => wn2_no x w1 hz h
  have hT := fun w1 (hb : Below w.heap.size w w1) => (hs.below hb).three.text
  clear hk
  clear hz hs h
  unfold agE zeroE zeroG zeroL zeroP at *
  simp only at *
  have hB1 : Below w.heap.size w (((w.alloc (.cells #[.string ⟨#[]⟩, .string ⟨#[]⟩, .int .i64 0, .string ⟨#[]⟩, .string ⟨#[]⟩, .int .i64 0, .int .i64 0, .string ⟨#[]⟩, .int .i64 0, .int .i64 0, .string ⟨#[]⟩, .int .i64 0, .int .i64 0, .int .i64 0] 29)).alloc (.cells #[.string k, .string ⟨#[]⟩, .int .i64 0, .string ⟨#[]⟩, .string ⟨#[]⟩, .int .i64 0, .int .i64 0, .string ⟨#[]⟩, .int .i64 0, .int .i64 0, .string ⟨#[]⟩, .int .i64 0, .int .i64 0, .int .i64 0] 29)).alloc (.cells #[.pointer (some ⟨w.heap.size + 1, 10, none⟩)] 77)) := by
    repeat (first | exact Below.refl _ _ | assumption | (refine Below.setCell ?_ (by (try simp); (try omega)) _) | (refine Below.alloc ?_ (by (try simp); (try omega)) _) | (refine Below.drew ?_))
  have hTo := fun o => hT _ (hB1.alloc hB1.size o)
  have HP : Hid (∀ w1, Calls Tryz.prog 48 _ _ _) := hp
  clear hp hT
  go_enter Tryz.func37, Tryz.ntmps37
  go_wp2_with (first
    | (go_at_call 43; refine (hPl _ (by simp)).mono ?_; rintro e w1 ⟨rfl, rfl⟩)
    | (go_at_call 48; refine (HP.out _).mono ?_; rintro e w2 ⟨⟨v, n, rfl⟩, o, rfl⟩; have hT2 := hTo o))
  go_region
  go_wp2
  refine bodyPost_ret (v := .tuple #[.agg #[.string ⟨#[]⟩, .string ⟨#[]⟩, .int .i64 0, .string ⟨#[]⟩, .string ⟨#[]⟩, .int .i64 0, .int .i64 0, .string ⟨#[]⟩, .int .i64 0, .int .i64 0, .string ⟨#[]⟩, .int .i64 0, .int .i64 0, .int .i64 0], err (s 0)]) (by simp [results, Tryz.results37, go_sem]) rfl ⟨rfl, ?_⟩
  repeat (first | exact Below.refl _ _ | assumption | (refine Below.setCell ?_ (by (try simp); (try omega)) _) | (refine Below.alloc ?_ (by (try simp); (try omega)) _) | (refine Below.drew ?_))
set_option maxRecDepth 100000 in
set_option maxHeartbeats 8000000 in
theorem rp_to_err (k x : ByteArray) (w : World) (s : Nat → Addr) (hz : x.size < 4294967281) (hs : Es w s) (hk : k = kIn ∨ k = kMore) (h : wordsK x.data.toList = true) (h1 : isNum 13 (cutB 32 (cutB 32 x.data.toList)) = true) (h2 : (readP (cutA 32 (cutB 32 x.data.toList))).2 ≠ 0) :
    Calls Tryz.prog 37 #[.string k, .string x] w fun e w' => e = .returned (.tuple #[agE zeroE, errP s (readP (cutA 32 (cutB 32 x.data.toList))).2]) ∧ Below w.heap.size w w' := by
  have hPl := fun w1 (h0 : w1.cell? ⟨w.heap.size + 1, 0, none⟩ = some (.string k)) => places_to k (w.heap.size + 1) w1 hk h0
  have hp := fun w1 => wn2_yes x w1 hz h
  rw [h1] at hp
  have hl0 : x.data.toList.length < 4294967281 := by rw [size_len]; exact hz
  have q1 := cutB_le 32 x.data.toList
  have q2 := cutA_le 32 (cutB 32 x.data.toList)
  have hR := fun w1 (hb : Below w.heap.size w w1) => pread_any ⟨(cutA 32 (cutB 32 x.data.toList)).toArray⟩ w1 s (by rw [mk_size]; unfold maxLen; omega) (hs.three.below hb)
  simp only at hR
  rw [errP_pos s h2] at hR ⊢
  generalize s ((readP (cutA 32 (cutB 32 x.data.toList))).2 - 1) = ad at *
  generalize (readP (cutA 32 (cutB 32 x.data.toList))).1 = pp at *
  obtain ⟨pa, pr, pb⟩ := pp
  unfold agP at *
  clear hl0 q1 q2 h2
  clear hz hs h h1 hk
  unfold agE zeroE zeroG zeroL zeroP at *
  simp only at *
  generalize numR 13 (cutB 32 (cutB 32 x.data.toList)) = nn at *
  generalize (⟨(cutA 32 x.data.toList).toArray⟩ : ByteArray) = z0 at *
  generalize (⟨(cutA 32 (cutB 32 x.data.toList)).toArray⟩ : ByteArray) = z1 at *
  generalize (⟨(cutB 32 (cutB 32 x.data.toList)).toArray⟩ : ByteArray) = z2 at *
  have hB2 : Below w.heap.size w ((((w.alloc (.cells #[.string ⟨#[]⟩, .string ⟨#[]⟩, .int .i64 0, .string ⟨#[]⟩, .string ⟨#[]⟩, .int .i64 0, .int .i64 0, .string ⟨#[]⟩, .int .i64 0, .int .i64 0, .string ⟨#[]⟩, .int .i64 0, .int .i64 0, .int .i64 0] 29)).alloc (.cells #[.string k, .string ⟨#[]⟩, .int .i64 0, .string z0, .string ⟨#[]⟩, .int .i64 0, .int .i64 0, .string ⟨#[]⟩, .int .i64 0, .int .i64 0, .string ⟨#[]⟩, .int .i64 0, .int .i64 0, .int .i64 nn] 29)).alloc (.cells #[.pointer (some ⟨w.heap.size + 1, 10, none⟩)] 77)).alloc (.cells #[.string z0, .string z1, .string z2] 9)) := by
    repeat (first | exact Below.refl _ _ | assumption | (refine Below.setCell ?_ (by (try simp); (try omega)) _) | (refine Below.alloc ?_ (by (try simp); (try omega)) _) | (refine Below.drew ?_))
  have hR2 := hR _ hB2
  have HP : Hid (∀ w1, Calls Tryz.prog 48 _ _ _) := hp
  have HR : Hid (Calls Tryz.prog 50 _ _ _) := hR2
  have hRE : BlkE ((((w.alloc (.cells #[.string ⟨#[]⟩, .string ⟨#[]⟩, .int .i64 0, .string ⟨#[]⟩, .string ⟨#[]⟩, .int .i64 0, .int .i64 0, .string ⟨#[]⟩, .int .i64 0, .int .i64 0, .string ⟨#[]⟩, .int .i64 0, .int .i64 0, .int .i64 0] 29)).alloc (.cells #[.string k, .string ⟨#[]⟩, .int .i64 0, .string z0, .string ⟨#[]⟩, .int .i64 0, .int .i64 0, .string ⟨#[]⟩, .int .i64 0, .int .i64 0, .string ⟨#[]⟩, .int .i64 0, .int .i64 0, .int .i64 nn] 29)).alloc (.cells #[.pointer (some ⟨w.heap.size + 1, 10, none⟩)] 77)).alloc (.cells #[.string z0, .string z1, .string z2] 9)) w.heap.size zeroE := (((BlkE.new w zeroE).below ((Below.refl _ _).alloc (Nat.le_refl _) _)).below ((Below.refl _ _).alloc (Nat.le_refl _) _)).below ((Below.refl _ _).alloc (Nat.le_refl _) _)
  have hEE : BlkE ((((w.alloc (.cells #[.string ⟨#[]⟩, .string ⟨#[]⟩, .int .i64 0, .string ⟨#[]⟩, .string ⟨#[]⟩, .int .i64 0, .int .i64 0, .string ⟨#[]⟩, .int .i64 0, .int .i64 0, .string ⟨#[]⟩, .int .i64 0, .int .i64 0, .int .i64 0] 29)).alloc (.cells #[.string k, .string ⟨#[]⟩, .int .i64 0, .string z0, .string ⟨#[]⟩, .int .i64 0, .int .i64 0, .string ⟨#[]⟩, .int .i64 0, .int .i64 0, .string ⟨#[]⟩, .int .i64 0, .int .i64 0, .int .i64 nn] 29)).alloc (.cells #[.pointer (some ⟨w.heap.size + 1, 10, none⟩)] 77)).alloc (.cells #[.string z0, .string z1, .string z2] 9)) (w.heap.size + 1) (k, zeroG, (z0, ⟨#[]⟩, 0, 0), zeroP, zeroP, nn) := by
    have hh := BlkE.new (w.alloc (celE zeroE)) (k, zeroG, (z0, ⟨#[]⟩, 0, 0), zeroP, zeroP, nn)
    have e1 : (w.alloc (celE zeroE)).heap.size = w.heap.size + 1 := by simp
    rw [e1] at hh
    exact (hh.below ((Below.refl _ _).alloc (Nat.le_refl _) _)).below ((Below.refl _ _).alloc (Nat.le_refl _) _)
  have hw1 : ((((w.alloc (.cells #[.string ⟨#[]⟩, .string ⟨#[]⟩, .int .i64 0, .string ⟨#[]⟩, .string ⟨#[]⟩, .int .i64 0, .int .i64 0, .string ⟨#[]⟩, .int .i64 0, .int .i64 0, .string ⟨#[]⟩, .int .i64 0, .int .i64 0, .int .i64 0] 29)).alloc (.cells #[.string k, .string ⟨#[]⟩, .int .i64 0, .string z0, .string ⟨#[]⟩, .int .i64 0, .int .i64 0, .string ⟨#[]⟩, .int .i64 0, .int .i64 0, .string ⟨#[]⟩, .int .i64 0, .int .i64 0, .int .i64 nn] 29)).alloc (.cells #[.pointer (some ⟨w.heap.size + 1, 10, none⟩)] 77)).alloc (.cells #[.string z0, .string z1, .string z2] 9)).cell? ⟨w.heap.size + 1 + 1, 0, none⟩ = some (.pointer (some ⟨w.heap.size + 1, 10, none⟩)) := by
    rw [((Below.refl _ _).alloc (Nat.le_refl _) _).cell (p := ⟨w.heap.size + 1 + 1, 0, none⟩) (by simp), World.cell?_alloc_at _ _ _ _ (by simp)]; rfl
  have hw2 : ((((w.alloc (.cells #[.string ⟨#[]⟩, .string ⟨#[]⟩, .int .i64 0, .string ⟨#[]⟩, .string ⟨#[]⟩, .int .i64 0, .int .i64 0, .string ⟨#[]⟩, .int .i64 0, .int .i64 0, .string ⟨#[]⟩, .int .i64 0, .int .i64 0, .int .i64 0] 29)).alloc (.cells #[.string k, .string ⟨#[]⟩, .int .i64 0, .string z0, .string ⟨#[]⟩, .int .i64 0, .int .i64 0, .string ⟨#[]⟩, .int .i64 0, .int .i64 0, .string ⟨#[]⟩, .int .i64 0, .int .i64 0, .int .i64 nn] 29)).alloc (.cells #[.pointer (some ⟨w.heap.size + 1, 10, none⟩)] 77)).alloc (.cells #[.string z0, .string z1, .string z2] 9)).cell? ⟨w.heap.size + 1 + 1 + 1, 1, none⟩ = some (.string z1) := by
    rw [World.cell?_alloc_at _ _ _ _ (by simp)]; rfl
  have HB2 : Hid (Below _ _ _) := hB2
  have HRE : Hid (BlkE _ _ _) := hRE
  have HEE : Hid (BlkE _ _ _) := hEE
  clear hp hR hR2 hB2 hRE hEE
  go_enter Tryz.func37, Tryz.ntmps37
  go_wp2_with (first | (go_at_call 43; refine (hPl _ (by simp)).mono ?_; rintro e w1 ⟨rfl, rfl⟩) | (go_at_call 48; refine (HP.out _).mono ?_; rintro e w2 ⟨rfl, rfl⟩))
  clear HP hPl
  generalize ((((w.alloc (.cells #[.string ⟨#[]⟩, .string ⟨#[]⟩, .int .i64 0, .string ⟨#[]⟩, .string ⟨#[]⟩, .int .i64 0, .int .i64 0, .string ⟨#[]⟩, .int .i64 0, .int .i64 0, .string ⟨#[]⟩, .int .i64 0, .int .i64 0, .int .i64 0] 29)).alloc (.cells #[.string k, .string ⟨#[]⟩, .int .i64 0, .string z0, .string ⟨#[]⟩, .int .i64 0, .int .i64 0, .string ⟨#[]⟩, .int .i64 0, .int .i64 0, .string ⟨#[]⟩, .int .i64 0, .int .i64 0, .int .i64 nn] 29)).alloc (.cells #[.pointer (some ⟨w.heap.size + 1, 10, none⟩)] 77)).alloc (.cells #[.string z0, .string z1, .string z2] 9)) = W at *
  refine wp_loop_rounds 2 ?_
  rw [rounds_succ]
  go_wp2_with (first | (go_at_call 50; refine HR.out.mono ?_; rintro e w4 ⟨rfl, hb4⟩; have hbw := HB2.out.trans (hb4.mono HB2.out.size); have hE4 := HEE.out.below hb4; have hR4 := HRE.out.below hb4; have hz4 := hE4.lt; have hz5 := hR4.lt; have hfR := hR4.frozen; have hfE := hE4.frozen; obtain ⟨r0, r1, r2, r3, r4, r5, r6, r7, r8, r9, r10, r11, r12, r13⟩ := hR4.at; obtain ⟨c0, c1, c2, c3, c4, c5, c6, c7, c8, c9, c10, c11, c12, c13⟩ := hE4.at; unfold zeroE zeroG zeroL zeroP at r0 r1 r2 r3 r4 r5 r6 r7 r8 r9 r10 r11 r12 r13; unfold zeroG zeroP at c0 c1 c2 c3 c4 c5 c6 c7 c8 c9 c10 c11 c12 c13; simp only at r0 r1 r2 r3 r4 r5 r6 r7 r8 r9 r10 r11 r12 r13 c0 c1 c2 c3 c4 c5 c6 c7 c8 c9 c10 c11 c12 c13; clear hE4 hb4 HR hw1 hw2))
  have hFF : BlkE (((((((((((((((((w4.setCell ⟨w.heap.size + 1, 10, none⟩ (.string pa)).setCell ⟨w.heap.size + 1, 11, none⟩ (.int .i64 pr)).setCell ⟨w.heap.size + 1, 12, none⟩ (.int .i64 pb)).setCell ⟨w.heap.size, 0, none⟩ (.string ⟨#[]⟩)).setCell ⟨w.heap.size, 1, none⟩ (.string ⟨#[]⟩)).setCell ⟨w.heap.size, 2, none⟩ (.int .i64 0)).setCell ⟨w.heap.size, 3, none⟩ (.string ⟨#[]⟩)).setCell ⟨w.heap.size, 4, none⟩ (.string ⟨#[]⟩)).setCell ⟨w.heap.size, 5, none⟩ (.int .i64 0)).setCell ⟨w.heap.size, 6, none⟩ (.int .i64 0)).setCell ⟨w.heap.size, 7, none⟩ (.string ⟨#[]⟩)).setCell ⟨w.heap.size, 8, none⟩ (.int .i64 0)).setCell ⟨w.heap.size, 9, none⟩ (.int .i64 0)).setCell ⟨w.heap.size, 10, none⟩ (.string ⟨#[]⟩)).setCell ⟨w.heap.size, 11, none⟩ (.int .i64 0)).setCell ⟨w.heap.size, 12, none⟩ (.int .i64 0)).setCell ⟨w.heap.size, 13, none⟩ (.int .i64 0)) w.heap.size (⟨#[]⟩, (⟨#[]⟩, 0), (⟨#[]⟩, ⟨#[]⟩, 0, 0), (⟨#[]⟩, 0, 0), (⟨#[]⟩, 0, 0), 0) := BlkE.setE (set3_other hR4 (w.heap.size + 1) 10 11 12 _ _ _ (by omega)) (⟨#[]⟩, (⟨#[]⟩, 0), (⟨#[]⟩, ⟨#[]⟩, 0, 0), (⟨#[]⟩, 0, 0), (⟨#[]⟩, 0, 0), 0)
  have hBF : Below w.heap.size w (((((((((((((((((w4.setCell ⟨w.heap.size + 1, 10, none⟩ (.string pa)).setCell ⟨w.heap.size + 1, 11, none⟩ (.int .i64 pr)).setCell ⟨w.heap.size + 1, 12, none⟩ (.int .i64 pb)).setCell ⟨w.heap.size, 0, none⟩ (.string ⟨#[]⟩)).setCell ⟨w.heap.size, 1, none⟩ (.string ⟨#[]⟩)).setCell ⟨w.heap.size, 2, none⟩ (.int .i64 0)).setCell ⟨w.heap.size, 3, none⟩ (.string ⟨#[]⟩)).setCell ⟨w.heap.size, 4, none⟩ (.string ⟨#[]⟩)).setCell ⟨w.heap.size, 5, none⟩ (.int .i64 0)).setCell ⟨w.heap.size, 6, none⟩ (.int .i64 0)).setCell ⟨w.heap.size, 7, none⟩ (.string ⟨#[]⟩)).setCell ⟨w.heap.size, 8, none⟩ (.int .i64 0)).setCell ⟨w.heap.size, 9, none⟩ (.int .i64 0)).setCell ⟨w.heap.size, 10, none⟩ (.string ⟨#[]⟩)).setCell ⟨w.heap.size, 11, none⟩ (.int .i64 0)).setCell ⟨w.heap.size, 12, none⟩ (.int .i64 0)).setCell ⟨w.heap.size, 13, none⟩ (.int .i64 0)) := below_setE (((hbw.setCell (p := ⟨w.heap.size + 1, 10, none⟩) (by simp) _).setCell (p := ⟨w.heap.size + 1, 11, none⟩) (by simp) _).setCell (p := ⟨w.heap.size + 1, 12, none⟩) (by simp) _) (Nat.le_refl _) (⟨#[]⟩, (⟨#[]⟩, 0), (⟨#[]⟩, ⟨#[]⟩, 0, 0), (⟨#[]⟩, 0, 0), (⟨#[]⟩, 0, 0), 0)
  generalize (((((((((((((((((w4.setCell ⟨w.heap.size + 1, 10, none⟩ (.string pa)).setCell ⟨w.heap.size + 1, 11, none⟩ (.int .i64 pr)).setCell ⟨w.heap.size + 1, 12, none⟩ (.int .i64 pb)).setCell ⟨w.heap.size, 0, none⟩ (.string ⟨#[]⟩)).setCell ⟨w.heap.size, 1, none⟩ (.string ⟨#[]⟩)).setCell ⟨w.heap.size, 2, none⟩ (.int .i64 0)).setCell ⟨w.heap.size, 3, none⟩ (.string ⟨#[]⟩)).setCell ⟨w.heap.size, 4, none⟩ (.string ⟨#[]⟩)).setCell ⟨w.heap.size, 5, none⟩ (.int .i64 0)).setCell ⟨w.heap.size, 6, none⟩ (.int .i64 0)).setCell ⟨w.heap.size, 7, none⟩ (.string ⟨#[]⟩)).setCell ⟨w.heap.size, 8, none⟩ (.int .i64 0)).setCell ⟨w.heap.size, 9, none⟩ (.int .i64 0)).setCell ⟨w.heap.size, 10, none⟩ (.string ⟨#[]⟩)).setCell ⟨w.heap.size, 11, none⟩ (.int .i64 0)).setCell ⟨w.heap.size, 12, none⟩ (.int .i64 0)).setCell ⟨w.heap.size, 13, none⟩ (.int .i64 0)) = WF at *
  obtain ⟨f0, f1, f2, f3, f4, f5, f6, f7, f8, f9, f10, f11, f12, f13⟩ := hFF.at
  simp only at f0 f1 f2 f3 f4 f5 f6 f7 f8 f9 f10 f11 f12 f13
  have hzF := hFF.lt
  exact bodyPost_ret (v := .tuple #[.agg #[.string ⟨#[]⟩, .string ⟨#[]⟩, .int .i64 0, .string ⟨#[]⟩, .string ⟨#[]⟩, .int .i64 0, .int .i64 0, .string ⟨#[]⟩, .int .i64 0, .int .i64 0, .string ⟨#[]⟩, .int .i64 0, .int .i64 0, .int .i64 0], err ad]) (by simp [results, Tryz.results37, go_sem, f0, f1, f2, f3, f4, f5, f6, f7, f8, f9, f10, f11, f12, f13]) rfl ⟨rfl, hBF⟩
set_option maxRecDepth 100000 in
set_option maxHeartbeats 8000000 in
theorem rp_to_ok (k x : ByteArray) (w : World) (s : Nat → Addr) (hz : x.size < 4294967281) (hs : Es w s) (hk : k = kIn ∨ k = kMore) (h : wordsK x.data.toList = true) (h1 : isNum 13 (cutB 32 (cutB 32 x.data.toList)) = true) (h2 : (readP (cutA 32 (cutB 32 x.data.toList))).2 = 0) :
    Calls Tryz.prog 37 #[.string k, .string x] w fun e w' => e = .returned (.tuple #[agE (k, zeroG, (arr (cutA 32 x.data.toList), ⟨#[]⟩, 0, 0), zeroP, (readP (cutA 32 (cutB 32 x.data.toList))).1, numR 13 (cutB 32 (cutB 32 x.data.toList))), .nilIface]) ∧ Below w.heap.size w w' := by
  have hPl := fun w1 (h0 : w1.cell? ⟨w.heap.size + 1, 0, none⟩ = some (.string k)) => places_to k (w.heap.size + 1) w1 hk h0
  have hp := fun w1 => wn2_yes x w1 hz h
  rw [h1] at hp
  have hl0 : x.data.toList.length < 4294967281 := by rw [size_len]; exact hz
  have q1 := cutB_le 32 x.data.toList
  have q2 := cutA_le 32 (cutB 32 x.data.toList)
  have hR := fun w1 (hb : Below w.heap.size w w1) => pread_any ⟨(cutA 32 (cutB 32 x.data.toList)).toArray⟩ w1 s (by rw [mk_size]; unfold maxLen; omega) (hs.three.below hb)
  simp only at hR
  rw [h2, errP_zero] at hR
  generalize (readP (cutA 32 (cutB 32 x.data.toList))).1 = pp at *
  obtain ⟨pa, pr, pb⟩ := pp
  unfold agP at *
  clear hl0 q1 q2 h2
  clear hz hs h h1 hk
  unfold agE zeroG zeroP arr at *
  simp only at *
  generalize numR 13 (cutB 32 (cutB 32 x.data.toList)) = nn at *
  generalize (⟨(cutA 32 x.data.toList).toArray⟩ : ByteArray) = z0 at *
  generalize (⟨(cutA 32 (cutB 32 x.data.toList)).toArray⟩ : ByteArray) = z1 at *
  generalize (⟨(cutB 32 (cutB 32 x.data.toList)).toArray⟩ : ByteArray) = z2 at *
  have hB2 : Below w.heap.size w ((((w.alloc (.cells #[.string ⟨#[]⟩, .string ⟨#[]⟩, .int .i64 0, .string ⟨#[]⟩, .string ⟨#[]⟩, .int .i64 0, .int .i64 0, .string ⟨#[]⟩, .int .i64 0, .int .i64 0, .string ⟨#[]⟩, .int .i64 0, .int .i64 0, .int .i64 0] 29)).alloc (.cells #[.string k, .string ⟨#[]⟩, .int .i64 0, .string z0, .string ⟨#[]⟩, .int .i64 0, .int .i64 0, .string ⟨#[]⟩, .int .i64 0, .int .i64 0, .string ⟨#[]⟩, .int .i64 0, .int .i64 0, .int .i64 nn] 29)).alloc (.cells #[.pointer (some ⟨w.heap.size + 1, 10, none⟩)] 77)).alloc (.cells #[.string z0, .string z1, .string z2] 9)) := by
    repeat (first | exact Below.refl _ _ | assumption | (refine Below.setCell ?_ (by (try simp); (try omega)) _) | (refine Below.alloc ?_ (by (try simp); (try omega)) _) | (refine Below.drew ?_))
  have hR2 := hR _ hB2
  have HP : Hid (∀ w1, Calls Tryz.prog 48 _ _ _) := hp
  have HR : Hid (Calls Tryz.prog 50 _ _ _) := hR2
  have hRE : BlkE ((((w.alloc (.cells #[.string ⟨#[]⟩, .string ⟨#[]⟩, .int .i64 0, .string ⟨#[]⟩, .string ⟨#[]⟩, .int .i64 0, .int .i64 0, .string ⟨#[]⟩, .int .i64 0, .int .i64 0, .string ⟨#[]⟩, .int .i64 0, .int .i64 0, .int .i64 0] 29)).alloc (.cells #[.string k, .string ⟨#[]⟩, .int .i64 0, .string z0, .string ⟨#[]⟩, .int .i64 0, .int .i64 0, .string ⟨#[]⟩, .int .i64 0, .int .i64 0, .string ⟨#[]⟩, .int .i64 0, .int .i64 0, .int .i64 nn] 29)).alloc (.cells #[.pointer (some ⟨w.heap.size + 1, 10, none⟩)] 77)).alloc (.cells #[.string z0, .string z1, .string z2] 9)) w.heap.size zeroE := (((BlkE.new w zeroE).below ((Below.refl _ _).alloc (Nat.le_refl _) _)).below ((Below.refl _ _).alloc (Nat.le_refl _) _)).below ((Below.refl _ _).alloc (Nat.le_refl _) _)
  have hEE : BlkE ((((w.alloc (.cells #[.string ⟨#[]⟩, .string ⟨#[]⟩, .int .i64 0, .string ⟨#[]⟩, .string ⟨#[]⟩, .int .i64 0, .int .i64 0, .string ⟨#[]⟩, .int .i64 0, .int .i64 0, .string ⟨#[]⟩, .int .i64 0, .int .i64 0, .int .i64 0] 29)).alloc (.cells #[.string k, .string ⟨#[]⟩, .int .i64 0, .string z0, .string ⟨#[]⟩, .int .i64 0, .int .i64 0, .string ⟨#[]⟩, .int .i64 0, .int .i64 0, .string ⟨#[]⟩, .int .i64 0, .int .i64 0, .int .i64 nn] 29)).alloc (.cells #[.pointer (some ⟨w.heap.size + 1, 10, none⟩)] 77)).alloc (.cells #[.string z0, .string z1, .string z2] 9)) (w.heap.size + 1) (k, zeroG, (z0, ⟨#[]⟩, 0, 0), zeroP, zeroP, nn) := by
    have hh := BlkE.new (w.alloc (celE zeroE)) (k, zeroG, (z0, ⟨#[]⟩, 0, 0), zeroP, zeroP, nn)
    have e1 : (w.alloc (celE zeroE)).heap.size = w.heap.size + 1 := by simp
    rw [e1] at hh
    exact (hh.below ((Below.refl _ _).alloc (Nat.le_refl _) _)).below ((Below.refl _ _).alloc (Nat.le_refl _) _)
  have hw1 : ((((w.alloc (.cells #[.string ⟨#[]⟩, .string ⟨#[]⟩, .int .i64 0, .string ⟨#[]⟩, .string ⟨#[]⟩, .int .i64 0, .int .i64 0, .string ⟨#[]⟩, .int .i64 0, .int .i64 0, .string ⟨#[]⟩, .int .i64 0, .int .i64 0, .int .i64 0] 29)).alloc (.cells #[.string k, .string ⟨#[]⟩, .int .i64 0, .string z0, .string ⟨#[]⟩, .int .i64 0, .int .i64 0, .string ⟨#[]⟩, .int .i64 0, .int .i64 0, .string ⟨#[]⟩, .int .i64 0, .int .i64 0, .int .i64 nn] 29)).alloc (.cells #[.pointer (some ⟨w.heap.size + 1, 10, none⟩)] 77)).alloc (.cells #[.string z0, .string z1, .string z2] 9)).cell? ⟨w.heap.size + 1 + 1, 0, none⟩ = some (.pointer (some ⟨w.heap.size + 1, 10, none⟩)) := by
    rw [((Below.refl _ _).alloc (Nat.le_refl _) _).cell (p := ⟨w.heap.size + 1 + 1, 0, none⟩) (by simp), World.cell?_alloc_at _ _ _ _ (by simp)]; rfl
  have hw2 : ((((w.alloc (.cells #[.string ⟨#[]⟩, .string ⟨#[]⟩, .int .i64 0, .string ⟨#[]⟩, .string ⟨#[]⟩, .int .i64 0, .int .i64 0, .string ⟨#[]⟩, .int .i64 0, .int .i64 0, .string ⟨#[]⟩, .int .i64 0, .int .i64 0, .int .i64 0] 29)).alloc (.cells #[.string k, .string ⟨#[]⟩, .int .i64 0, .string z0, .string ⟨#[]⟩, .int .i64 0, .int .i64 0, .string ⟨#[]⟩, .int .i64 0, .int .i64 0, .string ⟨#[]⟩, .int .i64 0, .int .i64 0, .int .i64 nn] 29)).alloc (.cells #[.pointer (some ⟨w.heap.size + 1, 10, none⟩)] 77)).alloc (.cells #[.string z0, .string z1, .string z2] 9)).cell? ⟨w.heap.size + 1 + 1 + 1, 1, none⟩ = some (.string z1) := by
    rw [World.cell?_alloc_at _ _ _ _ (by simp)]; rfl
  have HB2 : Hid (Below _ _ _) := hB2
  have HRE : Hid (BlkE _ _ _) := hRE
  have HEE : Hid (BlkE _ _ _) := hEE
  clear hp hR hR2 hB2 hRE hEE
  go_enter Tryz.func37, Tryz.ntmps37
  go_wp2_with (first | (go_at_call 43; refine (hPl _ (by simp)).mono ?_; rintro e w1 ⟨rfl, rfl⟩) | (go_at_call 48; refine (HP.out _).mono ?_; rintro e w2 ⟨rfl, rfl⟩))
  clear HP hPl
  generalize ((((w.alloc (.cells #[.string ⟨#[]⟩, .string ⟨#[]⟩, .int .i64 0, .string ⟨#[]⟩, .string ⟨#[]⟩, .int .i64 0, .int .i64 0, .string ⟨#[]⟩, .int .i64 0, .int .i64 0, .string ⟨#[]⟩, .int .i64 0, .int .i64 0, .int .i64 0] 29)).alloc (.cells #[.string k, .string ⟨#[]⟩, .int .i64 0, .string z0, .string ⟨#[]⟩, .int .i64 0, .int .i64 0, .string ⟨#[]⟩, .int .i64 0, .int .i64 0, .string ⟨#[]⟩, .int .i64 0, .int .i64 0, .int .i64 nn] 29)).alloc (.cells #[.pointer (some ⟨w.heap.size + 1, 10, none⟩)] 77)).alloc (.cells #[.string z0, .string z1, .string z2] 9)) = W at *
  refine wp_loop_rounds 2 ?_
  rw [rounds_succ]
  go_wp2_with (first | (go_at_call 50; refine HR.out.mono ?_; rintro e w4 ⟨rfl, hb4⟩; have hbw := HB2.out.trans (hb4.mono HB2.out.size); have hE4 := HEE.out.below hb4; have hR4 := HRE.out.below hb4; have hz4 := hE4.lt; have hz5 := hR4.lt; have hfR := hR4.frozen; have hfE := hE4.frozen; obtain ⟨r0, r1, r2, r3, r4, r5, r6, r7, r8, r9, r10, r11, r12, r13⟩ := hR4.at; obtain ⟨c0, c1, c2, c3, c4, c5, c6, c7, c8, c9, c10, c11, c12, c13⟩ := hE4.at; unfold zeroE zeroG zeroL zeroP at r0 r1 r2 r3 r4 r5 r6 r7 r8 r9 r10 r11 r12 r13; unfold zeroG zeroP at c0 c1 c2 c3 c4 c5 c6 c7 c8 c9 c10 c11 c12 c13; simp only at r0 r1 r2 r3 r4 r5 r6 r7 r8 r9 r10 r11 r12 r13 c0 c1 c2 c3 c4 c5 c6 c7 c8 c9 c10 c11 c12 c13; clear hE4 hb4 HR hw1 hw2))
  rw [rounds_succ]
  go_wp2
  have hFF : BlkE (((((((((((((((((w4.setCell ⟨w.heap.size + 1, 10, none⟩ (.string pa)).setCell ⟨w.heap.size + 1, 11, none⟩ (.int .i64 pr)).setCell ⟨w.heap.size + 1, 12, none⟩ (.int .i64 pb)).setCell ⟨w.heap.size, 0, none⟩ (.string k)).setCell ⟨w.heap.size, 1, none⟩ (.string ⟨#[]⟩)).setCell ⟨w.heap.size, 2, none⟩ (.int .i64 0)).setCell ⟨w.heap.size, 3, none⟩ (.string z0)).setCell ⟨w.heap.size, 4, none⟩ (.string ⟨#[]⟩)).setCell ⟨w.heap.size, 5, none⟩ (.int .i64 0)).setCell ⟨w.heap.size, 6, none⟩ (.int .i64 0)).setCell ⟨w.heap.size, 7, none⟩ (.string ⟨#[]⟩)).setCell ⟨w.heap.size, 8, none⟩ (.int .i64 0)).setCell ⟨w.heap.size, 9, none⟩ (.int .i64 0)).setCell ⟨w.heap.size, 10, none⟩ (.string pa)).setCell ⟨w.heap.size, 11, none⟩ (.int .i64 pr)).setCell ⟨w.heap.size, 12, none⟩ (.int .i64 pb)).setCell ⟨w.heap.size, 13, none⟩ (.int .i64 nn)) w.heap.size (k, (⟨#[]⟩, 0), (z0, ⟨#[]⟩, 0, 0), (⟨#[]⟩, 0, 0), (pa, pr, pb), nn) := BlkE.setE (set3_other hR4 (w.heap.size + 1) 10 11 12 _ _ _ (by omega)) (k, (⟨#[]⟩, 0), (z0, ⟨#[]⟩, 0, 0), (⟨#[]⟩, 0, 0), (pa, pr, pb), nn)
  have hBF : Below w.heap.size w (((((((((((((((((w4.setCell ⟨w.heap.size + 1, 10, none⟩ (.string pa)).setCell ⟨w.heap.size + 1, 11, none⟩ (.int .i64 pr)).setCell ⟨w.heap.size + 1, 12, none⟩ (.int .i64 pb)).setCell ⟨w.heap.size, 0, none⟩ (.string k)).setCell ⟨w.heap.size, 1, none⟩ (.string ⟨#[]⟩)).setCell ⟨w.heap.size, 2, none⟩ (.int .i64 0)).setCell ⟨w.heap.size, 3, none⟩ (.string z0)).setCell ⟨w.heap.size, 4, none⟩ (.string ⟨#[]⟩)).setCell ⟨w.heap.size, 5, none⟩ (.int .i64 0)).setCell ⟨w.heap.size, 6, none⟩ (.int .i64 0)).setCell ⟨w.heap.size, 7, none⟩ (.string ⟨#[]⟩)).setCell ⟨w.heap.size, 8, none⟩ (.int .i64 0)).setCell ⟨w.heap.size, 9, none⟩ (.int .i64 0)).setCell ⟨w.heap.size, 10, none⟩ (.string pa)).setCell ⟨w.heap.size, 11, none⟩ (.int .i64 pr)).setCell ⟨w.heap.size, 12, none⟩ (.int .i64 pb)).setCell ⟨w.heap.size, 13, none⟩ (.int .i64 nn)) := below_setE (((hbw.setCell (p := ⟨w.heap.size + 1, 10, none⟩) (by simp) _).setCell (p := ⟨w.heap.size + 1, 11, none⟩) (by simp) _).setCell (p := ⟨w.heap.size + 1, 12, none⟩) (by simp) _) (Nat.le_refl _) (k, (⟨#[]⟩, 0), (z0, ⟨#[]⟩, 0, 0), (⟨#[]⟩, 0, 0), (pa, pr, pb), nn)
  generalize (((((((((((((((((w4.setCell ⟨w.heap.size + 1, 10, none⟩ (.string pa)).setCell ⟨w.heap.size + 1, 11, none⟩ (.int .i64 pr)).setCell ⟨w.heap.size + 1, 12, none⟩ (.int .i64 pb)).setCell ⟨w.heap.size, 0, none⟩ (.string k)).setCell ⟨w.heap.size, 1, none⟩ (.string ⟨#[]⟩)).setCell ⟨w.heap.size, 2, none⟩ (.int .i64 0)).setCell ⟨w.heap.size, 3, none⟩ (.string z0)).setCell ⟨w.heap.size, 4, none⟩ (.string ⟨#[]⟩)).setCell ⟨w.heap.size, 5, none⟩ (.int .i64 0)).setCell ⟨w.heap.size, 6, none⟩ (.int .i64 0)).setCell ⟨w.heap.size, 7, none⟩ (.string ⟨#[]⟩)).setCell ⟨w.heap.size, 8, none⟩ (.int .i64 0)).setCell ⟨w.heap.size, 9, none⟩ (.int .i64 0)).setCell ⟨w.heap.size, 10, none⟩ (.string pa)).setCell ⟨w.heap.size, 11, none⟩ (.int .i64 pr)).setCell ⟨w.heap.size, 12, none⟩ (.int .i64 pb)).setCell ⟨w.heap.size, 13, none⟩ (.int .i64 nn)) = WF at *
  obtain ⟨f0, f1, f2, f3, f4, f5, f6, f7, f8, f9, f10, f11, f12, f13⟩ := hFF.at
  simp only at f0 f1 f2 f3 f4 f5 f6 f7 f8 f9 f10 f11 f12 f13
  have hzF := hFF.lt
  exact bodyPost_ret (v := .tuple #[.agg #[.string k, .string ⟨#[]⟩, .int .i64 0, .string z0, .string ⟨#[]⟩, .int .i64 0, .int .i64 0, .string ⟨#[]⟩, .int .i64 0, .int .i64 0, .string pa, .int .i64 pr, .int .i64 pb, .int .i64 nn], .nilIface]) (by simp [results, Tryz.results37, go_sem, f0, f1, f2, f3, f4, f5, f6, f7, f8, f9, f10, f11, f12, f13]) rfl ⟨rfl, hBF⟩
end Go.Proofs.YtgdhfipbbijngaaGreatDoor
