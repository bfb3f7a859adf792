/-
  What checkPieces answers of an entry that is from a place, and of one that moves.
-/
import Derived.Test.YtgdhfipbbijngaaGreatDoorEzB
namespace Go.Proofs.YtgdhfipbbijngaaGreatDoor
open Go.RowKit Go.Lib Go.Sort

set_option maxRecDepth 100000 in
set_option maxHeartbeats 8000000 in
theorem cp_from (e : En) (w : World) (s : Nat → Addr) (hk : e.1 = kOut ∨ e.1 = kLess) (hz : SzE e) (hs : Es w s) :
    Calls Tryz.prog 42 #[agE e] w fun r w' => r = .returned (errP s (pieceErr .frm e)) ∧ Below w.heap.size w w' := by
  have hB : Below w.heap.size w (w.alloc (celE e)) := (Below.refl _ w).alloc (Nat.le_refl _) _
  have hE := BlkE.new w e
  have hPl := places_from e.1 w.heap.size (w.alloc (celE e)) hk hE.at.c0
  have hN : ∀ w, Calls Tryz.prog 57 #[.string e.2.2.1.1] w _ := fun w => name_any e.2.2.1.1 w hz.li
  have hF := fun w1 (hb : Below w.heap.size w w1) => pcheck_any e.2.2.2.1 w1 s hz.fz (hs.three.two.below hb)
  have HS : Hid (∀ w1, Below w.heap.size w w1 → Es w1 s) := fun w1 hb => hs.below hb
  clear hz hs
  obtain ⟨k, ⟨gc, gp⟩, ⟨li, lc, lu, lk⟩, ⟨fz, fr, fb⟩, ⟨tz, tr, tb⟩, n⟩ := e
  have hsz : w.heap.size < (w.alloc (celE (k, (gc, gp), (li, lc, lu, lk), (fz, fr, fb), (tz, tr, tb), n))).heap.size := by simp
  unfold agE celE at *
  unfold agP at *
  simp only at *
  have hmv : (k.toList == (⟨#[109, 111, 118, 101]⟩ : ByteArray).data.toList) = false := other_word (by rcases hk with rfl | rfl <;> decide)
  simp only at hmv
  have hB01 : Below (w.alloc (.cells #[.string k, .string gc, .int .i64 gp, .string li, .string lc, .int .i64 lu, .int .i64 lk, .string fz, .int .i64 fr, .int .i64 fb, .string tz, .int .i64 tr, .int .i64 tb, .int .i64 n] 29)).heap.size (w.alloc (.cells #[.string k, .string gc, .int .i64 gp, .string li, .string lc, .int .i64 lu, .int .i64 lk, .string fz, .int .i64 fr, .int .i64 fb, .string tz, .int .i64 tr, .int .i64 tb, .int .i64 n] 29)) ((w.alloc (.cells #[.string k, .string gc, .int .i64 gp, .string li, .string lc, .int .i64 lu, .int .i64 lk, .string fz, .int .i64 fr, .int .i64 fb, .string tz, .int .i64 tr, .int .i64 tb, .int .i64 n] 29)).alloc (.cells #[.pointer (some ⟨w.heap.size, 7, none⟩)] 77)) := (Below.refl _ _).alloc (Nat.le_refl _) _
  have hE1 := hE.below hB01
  have hB1 : Below w.heap.size w ((w.alloc (.cells #[.string k, .string gc, .int .i64 gp, .string li, .string lc, .int .i64 lu, .int .i64 lk, .string fz, .int .i64 fr, .int .i64 fb, .string tz, .int .i64 tr, .int .i64 tb, .int .i64 n] 29)).alloc (.cells #[.pointer (some ⟨w.heap.size, 7, none⟩)] 77)) := hB.trans (hB01.mono hB.size)
  have hS1 := HS.out _ hB1
  have hkd := hS1.three.two.name
  have hbd := hS1.three.two.bound
  have hsh := hS1.shape
  obtain ⟨a0, a1, a2, a3, a4, a5, a6, a7, a8, a9, a10, a11, a12, a13⟩ := hE1.at
  simp only at a0 a1 a2 a3 a4 a5 a6 a7 a8 a9 a10 a11 a12 a13
  have HP : Hid (Calls Tryz.prog 43 _ _ _) := hPl
  clear hPl hE hB hB01 hk
  cases h1 : isName li.data.toList with
  | false =>
    rw [h1] at hN
    have HE : Hid (errP s (pieceErr .frm (k, (gc, gp), (li, lc, lu, lk), (fz, fr, fb), (tz, tr, tb), n)) = err (s 4)) := by
      show _ = _
      unfold pieceErr fromErr toErr numErr kFrom kTo; simp only [h1, Bool.false_eq_true, if_false]
      (try rfl)
    go_enter Tryz.func42, Tryz.ntmps42
    go_wp2_with (first | (go_at_call 43; refine HP.out.mono ?_; rintro e w1 ⟨rfl, rfl⟩) | (go_at_call 57; refine (hN _).mono ?_; rintro e w2 ⟨rfl, rfl⟩))
    go_ret
    exact ⟨by rw [HE.out]; rfl, hB1⟩
  | true =>
    rw [h1] at hN
    by_cases h2 : placeErr (fz, fr, fb) = 0
    · rw [h2, errP_zero] at hF
      rcases (by omega : n < 1 ∨ (1 ≤ n ∧ 1099511627776 < n) ∨ (1 ≤ n ∧ n ≤ 1099511627776)) with q1 | ⟨q1, q2⟩ | ⟨q1, q2⟩
      · have h5 : numW n = false := by unfold numW; simp; omega
        have HE : Hid (errP s (pieceErr .frm (k, (gc, gp), (li, lc, lu, lk), (fz, fr, fb), (tz, tr, tb), n)) = err (s 1)) := by
          show _ = _
          unfold pieceErr fromErr toErr numErr kFrom kTo; simp only [h1, h2, h5, Bool.false_eq_true, if_false, if_true]
          (try rfl)
        clear h5
        go_enter Tryz.func42, Tryz.ntmps42
        go_wp2_with (first | (go_at_call 43; refine HP.out.mono ?_; rintro e w1 ⟨rfl, rfl⟩) | (go_at_call 57; refine (hN _).mono ?_; rintro e w2 ⟨rfl, rfl⟩))
        refine wp_loop_rounds 2 ?_
        rw [rounds_succ]
        go_wp2_with (first | (go_at_call_of 59 (Value.agg #[.string fz, .int .i64 fr, .int .i64 fb]); refine (hF _ hB1).mono ?_; rintro e w3 ⟨rfl, hb3⟩; have hBl := hB1.trans (hb3.mono hB1.size); obtain ⟨c0, c1, c2, c3, c4, c5, c6, c7, c8, c9, c10, c11, c12, c13⟩ := (hE1.below hb3).at; simp only at c0 c1 c2 c3 c4 c5 c6 c7 c8 c9 c10 c11 c12 c13; have hS3 := HS.out _ hBl; have hbd3 := hS3.three.two.bound; have hsh3 := hS3.shape))
        rw [rounds_succ]
        go_wp2_with (first | (go_at_call_of 59 (Value.agg #[.string fz, .int .i64 fr, .int .i64 fb]); refine (hF _ hB1).mono ?_; rintro e w3 ⟨rfl, hb3⟩; have hBl := hB1.trans (hb3.mono hB1.size); obtain ⟨c0, c1, c2, c3, c4, c5, c6, c7, c8, c9, c10, c11, c12, c13⟩ := (hE1.below hb3).at; simp only at c0 c1 c2 c3 c4 c5 c6 c7 c8 c9 c10 c11 c12 c13; have hS3 := HS.out _ hBl; have hbd3 := hS3.three.two.bound; have hsh3 := hS3.shape))
        go_ret
        exact ⟨by rw [HE.out]; rfl, hBl⟩
      · have h5 : numW n = false := by unfold numW; simp; omega
        have HE : Hid (errP s (pieceErr .frm (k, (gc, gp), (li, lc, lu, lk), (fz, fr, fb), (tz, tr, tb), n)) = err (s 1)) := by
          show _ = _
          unfold pieceErr fromErr toErr numErr kFrom kTo; simp only [h1, h2, h5, Bool.false_eq_true, if_false, if_true]
          (try rfl)
        clear h5
        go_enter Tryz.func42, Tryz.ntmps42
        go_wp2_with (first | (go_at_call 43; refine HP.out.mono ?_; rintro e w1 ⟨rfl, rfl⟩) | (go_at_call 57; refine (hN _).mono ?_; rintro e w2 ⟨rfl, rfl⟩))
        refine wp_loop_rounds 2 ?_
        rw [rounds_succ]
        go_wp2_with (first | (go_at_call_of 59 (Value.agg #[.string fz, .int .i64 fr, .int .i64 fb]); refine (hF _ hB1).mono ?_; rintro e w3 ⟨rfl, hb3⟩; have hBl := hB1.trans (hb3.mono hB1.size); obtain ⟨c0, c1, c2, c3, c4, c5, c6, c7, c8, c9, c10, c11, c12, c13⟩ := (hE1.below hb3).at; simp only at c0 c1 c2 c3 c4 c5 c6 c7 c8 c9 c10 c11 c12 c13; have hS3 := HS.out _ hBl; have hbd3 := hS3.three.two.bound; have hsh3 := hS3.shape))
        rw [rounds_succ]
        go_wp2_with (first | (go_at_call_of 59 (Value.agg #[.string fz, .int .i64 fr, .int .i64 fb]); refine (hF _ hB1).mono ?_; rintro e w3 ⟨rfl, hb3⟩; have hBl := hB1.trans (hb3.mono hB1.size); obtain ⟨c0, c1, c2, c3, c4, c5, c6, c7, c8, c9, c10, c11, c12, c13⟩ := (hE1.below hb3).at; simp only at c0 c1 c2 c3 c4 c5 c6 c7 c8 c9 c10 c11 c12 c13; have hS3 := HS.out _ hBl; have hbd3 := hS3.three.two.bound; have hsh3 := hS3.shape))
        go_ret
        exact ⟨by rw [HE.out]; rfl, hBl⟩
      · have h5 : numW n = true := by unfold numW; simp; omega
        have HE : Hid (errP s (pieceErr .frm (k, (gc, gp), (li, lc, lu, lk), (fz, fr, fb), (tz, tr, tb), n)) = .nilIface) := by
          show _ = _
          unfold pieceErr fromErr toErr numErr kFrom kTo; simp only [h1, h2, h5, if_true, reduceCtorEq, false_and, if_false]
          (try rfl)
        clear h5
        go_enter Tryz.func42, Tryz.ntmps42
        go_wp2_with (first | (go_at_call 43; refine HP.out.mono ?_; rintro e w1 ⟨rfl, rfl⟩) | (go_at_call 57; refine (hN _).mono ?_; rintro e w2 ⟨rfl, rfl⟩))
        refine wp_loop_rounds 2 ?_
        rw [rounds_succ]
        go_wp2_with (first | (go_at_call_of 59 (Value.agg #[.string fz, .int .i64 fr, .int .i64 fb]); refine (hF _ hB1).mono ?_; rintro e w3 ⟨rfl, hb3⟩; have hBl := hB1.trans (hb3.mono hB1.size); obtain ⟨c0, c1, c2, c3, c4, c5, c6, c7, c8, c9, c10, c11, c12, c13⟩ := (hE1.below hb3).at; simp only at c0 c1 c2 c3 c4 c5 c6 c7 c8 c9 c10 c11 c12 c13; have hS3 := HS.out _ hBl; have hbd3 := hS3.three.two.bound; have hsh3 := hS3.shape))
        rw [rounds_succ]
        go_wp2_with (first | (go_at_call_of 59 (Value.agg #[.string fz, .int .i64 fr, .int .i64 fb]); refine (hF _ hB1).mono ?_; rintro e w3 ⟨rfl, hb3⟩; have hBl := hB1.trans (hb3.mono hB1.size); obtain ⟨c0, c1, c2, c3, c4, c5, c6, c7, c8, c9, c10, c11, c12, c13⟩ := (hE1.below hb3).at; simp only at c0 c1 c2 c3 c4 c5 c6 c7 c8 c9 c10 c11 c12 c13; have hS3 := HS.out _ hBl; have hbd3 := hS3.three.two.bound; have hsh3 := hS3.shape))
        go_ret
        exact ⟨by rw [HE.out]; rfl, hBl⟩
    · have hx := errP_pos s h2
      rw [hx] at hF
      have HE : Hid (errP s (pieceErr .frm (k, (gc, gp), (li, lc, lu, lk), (fz, fr, fb), (tz, tr, tb), n)) = err (s (placeErr (fz, fr, fb) - 1))) := by
        show _ = _
        unfold pieceErr fromErr toErr numErr kFrom kTo; simp only [h1, h2, if_true, if_false, ← hx]
        (try rfl)
      clear hx
      generalize s (placeErr (fz, fr, fb) - 1) = ad at *
      go_enter Tryz.func42, Tryz.ntmps42
      go_wp2_with (first | (go_at_call 43; refine HP.out.mono ?_; rintro e w1 ⟨rfl, rfl⟩) | (go_at_call 57; refine (hN _).mono ?_; rintro e w2 ⟨rfl, rfl⟩))
      refine wp_loop_rounds 2 ?_
      rw [rounds_succ]
      go_wp2_with (first | (go_at_call_of 59 (Value.agg #[.string fz, .int .i64 fr, .int .i64 fb]); refine (hF _ hB1).mono ?_; rintro e w3 ⟨rfl, hb3⟩; have hBl := hB1.trans (hb3.mono hB1.size); obtain ⟨c0, c1, c2, c3, c4, c5, c6, c7, c8, c9, c10, c11, c12, c13⟩ := (hE1.below hb3).at; simp only at c0 c1 c2 c3 c4 c5 c6 c7 c8 c9 c10 c11 c12 c13; have hS3 := HS.out _ hBl; have hbd3 := hS3.three.two.bound; have hsh3 := hS3.shape))
      go_ret
      exact ⟨by rw [HE.out]; rfl, hBl⟩
end Go.Proofs.YtgdhfipbbijngaaGreatDoor
