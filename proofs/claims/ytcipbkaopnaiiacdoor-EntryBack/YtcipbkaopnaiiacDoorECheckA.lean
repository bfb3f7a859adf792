/-
  What checkPieces answers of an entry of each sort, over every world that holds the sentinels as the program lays them; nothing old is turned.
-/
import Derived.Test.YtcipbkaopnaiiacDoorEPlaces
import Derived.Test.YtcipbkaopnaiiacDoorEGoods
import Derived.Test.YtcipbkaopnaiiacDoorPCheckA
import Derived.RegionTactic
namespace Go.Proofs.YtcipbkaopnaiiacDoor
open Go.RowKit Go.Lib Go.Sort

/-- The sentinels of an entry. -/
structure Es (w : World) (s : Nat → Addr) : Prop where
  three : Three w s
  shape : w.cell? ⟨0, 0, none⟩ = some (err (s 2))
  kind : w.cell? ⟨3, 0, none⟩ = some (err (s 3))
theorem Es.below {w w' : World} {s : Nat → Addr} (h : Es w s) (hb : Below w.heap.size w w') : Es w' s where
  three := h.three.below hb
  shape := by rw [hb.cell (p := ⟨0, 0, none⟩) (cell_lt h.shape)]; exact h.shape
  kind := by rw [hb.cell (p := ⟨3, 0, none⟩) (cell_lt h.kind)]; exact h.kind
/-- An entry whose texts a machine can hold. -/
structure SzE (e : En) : Prop where
  k : e.1.size ≤ maxLen
  gc : e.2.1.1.size ≤ maxLen
  li : e.2.2.1.1.size ≤ maxLen
  lc : e.2.2.1.2.1.size ≤ maxLen
  fz : e.2.2.2.1.1.size ≤ maxLen
  tz : e.2.2.2.2.1.1.size ≤ maxLen
theorem Tryd.guardPl : Tryd.prog.eqGuardType Tryd.prog.depth 27 = false := by kernel_rfl
theorem eqPl10 (x y : Pl) (w : World) : (Op.equalIn 10000 27 (.agg #[.string x.1, .int .i64 x.2.1, .int .i64 x.2.2]) (.agg #[.string y.1, .int .i64 y.2.1, .int .i64 y.2.2])).run Tryd.prog w = .ok (decide (x = y)) w := by
  obtain ⟨a, r, b⟩ := x
  obtain ⟨a', r', b'⟩ := y
  have u3 := Tryd.underlying3
  have a3 := Tryd.isAgg3
  have z3 := Tryd.sizeOf3
  have u9 := Tryd.underlying9
  have a9 := Tryd.isAgg9
  have z9 := Tryd.sizeOf9
  have hS : Tryd.prog.underlying 27 = some (.struct (Tryd.prog.fieldsOf 27)) := by kernel_rfl
  have hp : Tryd.prog.stoodInHeld 27 = false := by kernel_rfl
  rw [show (10000 : Nat) = 9999 + 1 from rfl, run_equalIn_agg w 9999 27 _ _ hS hp]
  simp only [Program.fieldsOf, Tryd.underlying27]
  have e3 := same_eq a a'
  go_simp
  by_cases h1 : a = a' <;> by_cases h2 : r = r' <;> by_cases h3 : b = b' <;> simp [h1, h2, h3]
set_option maxRecDepth 100000 in
set_option maxHeartbeats 2000000 in
theorem cp_other (e : En) (w : World) (s : Nat → Addr) (hk : NoKind e.1) (hs : Es w s) :
    Calls Tryd.prog 17 #[agE e] w fun r w' => r = .returned (err (s 3)) ∧ Below w.heap.size w w' := by
  have hB : Below w.heap.size w (w.alloc (celE e)) := (Below.refl _ w).alloc (Nat.le_refl _) _
  have hPl := places_other e.1 w.heap.size (w.alloc (celE e)) hk (BlkE.new w e).at.c0
  have hkd := (hs.below hB).kind
  clear hs hk
  obtain ⟨k, ⟨gc, gp⟩, ⟨li, lc, lu, lk⟩, ⟨fz, fr, fb⟩, ⟨tz, tr, tb⟩, n⟩ := e
  unfold agE celE at *
  simp only at *
  have HP : Hid (Calls Tryd.prog 18 _ _ _) := hPl
  clear hPl
  go_enter Tryd.func17, Tryd.ntmps17
  go_wp2_with (go_at_call 18; refine HP.out.mono ?_; rintro e w1 ⟨rfl, rfl⟩)
  go_ret
  exact ⟨rfl, hB⟩
set_option maxRecDepth 100000 in
set_option maxHeartbeats 8000000 in
theorem cp_to (e : En) (w : World) (s : Nat → Addr) (hk : e.1 = kIn ∨ e.1 = kMore) (hz : SzE e) (hs : Es w s) :
    Calls Tryd.prog 17 #[agE e] w fun r w' => r = .returned (errP s (pieceErr .tow e)) ∧ Below w.heap.size w w' := by
  have hB : Below w.heap.size w (w.alloc (celE e)) := (Below.refl _ w).alloc (Nat.le_refl _) _
  have hE := BlkE.new w e
  have hPl := places_to e.1 w.heap.size (w.alloc (celE e)) hk hE.at.c0
  have hN : ∀ w, Calls Tryd.prog 25 #[.string e.2.2.1.1] w _ := fun w => name_any e.2.2.1.1 w hz.li
  have hT := fun w1 (hb : Below w.heap.size w w1) => pcheck_any e.2.2.2.2.1 w1 s hz.tz (hs.three.two.below hb)
  have HS : Hid (∀ w1, Below w.heap.size w w1 → Es w1 s) := fun w1 hb => hs.below hb
  clear hz hs
  obtain ⟨k, ⟨gc, gp⟩, ⟨li, lc, lu, lk⟩, ⟨fz, fr, fb⟩, ⟨tz, tr, tb⟩, n⟩ := e
  have hsz : w.heap.size < (w.alloc (celE (k, (gc, gp), (li, lc, lu, lk), (fz, fr, fb), (tz, tr, tb), n))).heap.size := by simp
  unfold agE celE at *
  unfold agP at *
  simp only at *
  have hmv : (k.toList == (⟨#[109, 111, 118, 101]⟩ : ByteArray).data.toList) = false := other_word (by rcases hk with rfl | rfl <;> decide)
  simp only at hmv
  have hB01 : Below (w.alloc (.cells #[.string k, .string gc, .int .i64 gp, .string li, .string lc, .int .i64 lu, .int .i64 lk, .string fz, .int .i64 fr, .int .i64 fb, .string tz, .int .i64 tr, .int .i64 tb, .int .i64 n] 29)).heap.size (w.alloc (.cells #[.string k, .string gc, .int .i64 gp, .string li, .string lc, .int .i64 lu, .int .i64 lk, .string fz, .int .i64 fr, .int .i64 fb, .string tz, .int .i64 tr, .int .i64 tb, .int .i64 n] 29)) ((w.alloc (.cells #[.string k, .string gc, .int .i64 gp, .string li, .string lc, .int .i64 lu, .int .i64 lk, .string fz, .int .i64 fr, .int .i64 fb, .string tz, .int .i64 tr, .int .i64 tb, .int .i64 n] 29)).alloc (.cells #[.pointer (some ⟨w.heap.size, 10, none⟩)] 48)) := (Below.refl _ _).alloc (Nat.le_refl _) _
  have hE1 := hE.below hB01
  have hB1 : Below w.heap.size w ((w.alloc (.cells #[.string k, .string gc, .int .i64 gp, .string li, .string lc, .int .i64 lu, .int .i64 lk, .string fz, .int .i64 fr, .int .i64 fb, .string tz, .int .i64 tr, .int .i64 tb, .int .i64 n] 29)).alloc (.cells #[.pointer (some ⟨w.heap.size, 10, none⟩)] 48)) := hB.trans (hB01.mono hB.size)
  have hS1 := HS.out _ hB1
  have hkd := hS1.three.two.name
  have hbd := hS1.three.two.bound
  have hsh := hS1.shape
  obtain ⟨a0, a1, a2, a3, a4, a5, a6, a7, a8, a9, a10, a11, a12, a13⟩ := hE1.at
  simp only at a0 a1 a2 a3 a4 a5 a6 a7 a8 a9 a10 a11 a12 a13
  have HP : Hid (Calls Tryd.prog 18 _ _ _) := hPl
  clear hPl hE hB hB01 hk
  cases h1 : isName li.data.toList with
  | false =>
    rw [h1] at hN
    have HE : Hid (errP s (pieceErr .tow (k, (gc, gp), (li, lc, lu, lk), (fz, fr, fb), (tz, tr, tb), n)) = err (s 4)) := by
      show _ = _
      unfold pieceErr fromErr toErr numErr kFrom kTo; simp only [h1, Bool.false_eq_true, if_false]
      (try rfl)
    go_enter Tryd.func17, Tryd.ntmps17
    go_wp2_with (first | (go_at_call 18; refine HP.out.mono ?_; rintro e w1 ⟨rfl, rfl⟩) | (go_at_call 25; refine (hN _).mono ?_; rintro e w2 ⟨rfl, rfl⟩))
    go_ret
    exact ⟨by rw [HE.out]; rfl, hB1⟩
  | true =>
    rw [h1] at hN
    by_cases h2 : placeErr (tz, tr, tb) = 0
    · rw [h2, errP_zero] at hT
      rcases (by omega : n < 1 ∨ (1 ≤ n ∧ 1099511627776 < n) ∨ (1 ≤ n ∧ n ≤ 1099511627776)) with q1 | ⟨q1, q2⟩ | ⟨q1, q2⟩
      · have h5 : numW n = false := by unfold numW; simp; omega
        have HE : Hid (errP s (pieceErr .tow (k, (gc, gp), (li, lc, lu, lk), (fz, fr, fb), (tz, tr, tb), n)) = err (s 1)) := by
          show _ = _
          unfold pieceErr fromErr toErr numErr kFrom kTo; simp only [h1, h2, h5, Bool.false_eq_true, if_false, if_true]
          (try rfl)
        clear h5
        go_enter Tryd.func17, Tryd.ntmps17
        go_wp2_with (first | (go_at_call 18; refine HP.out.mono ?_; rintro e w1 ⟨rfl, rfl⟩) | (go_at_call 25; refine (hN _).mono ?_; rintro e w2 ⟨rfl, rfl⟩))
        refine wp_loop_rounds 2 ?_
        rw [rounds_succ]
        go_wp2_with (first | (go_at_call_of 27 (Value.agg #[.string tz, .int .i64 tr, .int .i64 tb]); refine (hT _ hB1).mono ?_; rintro e w3 ⟨rfl, hb3⟩; have hBl := hB1.trans (hb3.mono hB1.size); obtain ⟨c0, c1, c2, c3, c4, c5, c6, c7, c8, c9, c10, c11, c12, c13⟩ := (hE1.below hb3).at; simp only at c0 c1 c2 c3 c4 c5 c6 c7 c8 c9 c10 c11 c12 c13; have hS3 := HS.out _ hBl; have hbd3 := hS3.three.two.bound; have hsh3 := hS3.shape))
        rw [rounds_succ]
        go_wp2_with (first | (go_at_call_of 27 (Value.agg #[.string tz, .int .i64 tr, .int .i64 tb]); refine (hT _ hB1).mono ?_; rintro e w3 ⟨rfl, hb3⟩; have hBl := hB1.trans (hb3.mono hB1.size); obtain ⟨c0, c1, c2, c3, c4, c5, c6, c7, c8, c9, c10, c11, c12, c13⟩ := (hE1.below hb3).at; simp only at c0 c1 c2 c3 c4 c5 c6 c7 c8 c9 c10 c11 c12 c13; have hS3 := HS.out _ hBl; have hbd3 := hS3.three.two.bound; have hsh3 := hS3.shape))
        go_ret
        exact ⟨by rw [HE.out]; rfl, hBl⟩
      · have h5 : numW n = false := by unfold numW; simp; omega
        have HE : Hid (errP s (pieceErr .tow (k, (gc, gp), (li, lc, lu, lk), (fz, fr, fb), (tz, tr, tb), n)) = err (s 1)) := by
          show _ = _
          unfold pieceErr fromErr toErr numErr kFrom kTo; simp only [h1, h2, h5, Bool.false_eq_true, if_false, if_true]
          (try rfl)
        clear h5
        go_enter Tryd.func17, Tryd.ntmps17
        go_wp2_with (first | (go_at_call 18; refine HP.out.mono ?_; rintro e w1 ⟨rfl, rfl⟩) | (go_at_call 25; refine (hN _).mono ?_; rintro e w2 ⟨rfl, rfl⟩))
        refine wp_loop_rounds 2 ?_
        rw [rounds_succ]
        go_wp2_with (first | (go_at_call_of 27 (Value.agg #[.string tz, .int .i64 tr, .int .i64 tb]); refine (hT _ hB1).mono ?_; rintro e w3 ⟨rfl, hb3⟩; have hBl := hB1.trans (hb3.mono hB1.size); obtain ⟨c0, c1, c2, c3, c4, c5, c6, c7, c8, c9, c10, c11, c12, c13⟩ := (hE1.below hb3).at; simp only at c0 c1 c2 c3 c4 c5 c6 c7 c8 c9 c10 c11 c12 c13; have hS3 := HS.out _ hBl; have hbd3 := hS3.three.two.bound; have hsh3 := hS3.shape))
        rw [rounds_succ]
        go_wp2_with (first | (go_at_call_of 27 (Value.agg #[.string tz, .int .i64 tr, .int .i64 tb]); refine (hT _ hB1).mono ?_; rintro e w3 ⟨rfl, hb3⟩; have hBl := hB1.trans (hb3.mono hB1.size); obtain ⟨c0, c1, c2, c3, c4, c5, c6, c7, c8, c9, c10, c11, c12, c13⟩ := (hE1.below hb3).at; simp only at c0 c1 c2 c3 c4 c5 c6 c7 c8 c9 c10 c11 c12 c13; have hS3 := HS.out _ hBl; have hbd3 := hS3.three.two.bound; have hsh3 := hS3.shape))
        go_ret
        exact ⟨by rw [HE.out]; rfl, hBl⟩
      · have h5 : numW n = true := by unfold numW; simp; omega
        have HE : Hid (errP s (pieceErr .tow (k, (gc, gp), (li, lc, lu, lk), (fz, fr, fb), (tz, tr, tb), n)) = .nilIface) := by
          show _ = _
          unfold pieceErr fromErr toErr numErr kFrom kTo; simp only [h1, h2, h5, if_true, reduceCtorEq, false_and, if_false]
          (try rfl)
        clear h5
        go_enter Tryd.func17, Tryd.ntmps17
        go_wp2_with (first | (go_at_call 18; refine HP.out.mono ?_; rintro e w1 ⟨rfl, rfl⟩) | (go_at_call 25; refine (hN _).mono ?_; rintro e w2 ⟨rfl, rfl⟩))
        refine wp_loop_rounds 2 ?_
        rw [rounds_succ]
        go_wp2_with (first | (go_at_call_of 27 (Value.agg #[.string tz, .int .i64 tr, .int .i64 tb]); refine (hT _ hB1).mono ?_; rintro e w3 ⟨rfl, hb3⟩; have hBl := hB1.trans (hb3.mono hB1.size); obtain ⟨c0, c1, c2, c3, c4, c5, c6, c7, c8, c9, c10, c11, c12, c13⟩ := (hE1.below hb3).at; simp only at c0 c1 c2 c3 c4 c5 c6 c7 c8 c9 c10 c11 c12 c13; have hS3 := HS.out _ hBl; have hbd3 := hS3.three.two.bound; have hsh3 := hS3.shape))
        rw [rounds_succ]
        go_wp2_with (first | (go_at_call_of 27 (Value.agg #[.string tz, .int .i64 tr, .int .i64 tb]); refine (hT _ hB1).mono ?_; rintro e w3 ⟨rfl, hb3⟩; have hBl := hB1.trans (hb3.mono hB1.size); obtain ⟨c0, c1, c2, c3, c4, c5, c6, c7, c8, c9, c10, c11, c12, c13⟩ := (hE1.below hb3).at; simp only at c0 c1 c2 c3 c4 c5 c6 c7 c8 c9 c10 c11 c12 c13; have hS3 := HS.out _ hBl; have hbd3 := hS3.three.two.bound; have hsh3 := hS3.shape))
        go_ret
        exact ⟨by rw [HE.out]; rfl, hBl⟩
    · have hx := errP_pos s h2
      rw [hx] at hT
      have HE : Hid (errP s (pieceErr .tow (k, (gc, gp), (li, lc, lu, lk), (fz, fr, fb), (tz, tr, tb), n)) = err (s (placeErr (tz, tr, tb) - 1))) := by
        show _ = _
        unfold pieceErr fromErr toErr numErr kFrom kTo; simp only [h1, h2, if_true, if_false, ← hx]
        (try rfl)
      clear hx
      generalize s (placeErr (tz, tr, tb) - 1) = ad at *
      go_enter Tryd.func17, Tryd.ntmps17
      go_wp2_with (first | (go_at_call 18; refine HP.out.mono ?_; rintro e w1 ⟨rfl, rfl⟩) | (go_at_call 25; refine (hN _).mono ?_; rintro e w2 ⟨rfl, rfl⟩))
      refine wp_loop_rounds 2 ?_
      rw [rounds_succ]
      go_wp2_with (first | (go_at_call_of 27 (Value.agg #[.string tz, .int .i64 tr, .int .i64 tb]); refine (hT _ hB1).mono ?_; rintro e w3 ⟨rfl, hb3⟩; have hBl := hB1.trans (hb3.mono hB1.size); obtain ⟨c0, c1, c2, c3, c4, c5, c6, c7, c8, c9, c10, c11, c12, c13⟩ := (hE1.below hb3).at; simp only at c0 c1 c2 c3 c4 c5 c6 c7 c8 c9 c10 c11 c12 c13; have hS3 := HS.out _ hBl; have hbd3 := hS3.three.two.bound; have hsh3 := hS3.shape))
      go_ret
      exact ⟨by rw [HE.out]; rfl, hBl⟩
set_option maxRecDepth 100000 in
set_option maxHeartbeats 8000000 in
theorem cp_hold (e : En) (w : World) (s : Nat → Addr) (hk : e.1 = kHold ∨ e.1 = kFree) (hz : SzE e) (hs : Es w s) :
    Calls Tryd.prog 17 #[agE e] w fun r w' => r = .returned (errP s (pieceErr .hold e)) ∧ Below w.heap.size w w' := by
  have hB : Below w.heap.size w (w.alloc (celE e)) := (Below.refl _ w).alloc (Nat.le_refl _) _
  have hE := BlkE.new w e
  have hPl := places_hold e.1 w.heap.size (w.alloc (celE e)) hk hE.at.c0
  have hN : ∀ w, Calls Tryd.prog 25 #[.string e.2.2.1.1] w _ := fun w => name_any e.2.2.1.1 w hz.li
  have HS : Hid (∀ w1, Below w.heap.size w w1 → Es w1 s) := fun w1 hb => hs.below hb
  clear hz hs
  obtain ⟨k, ⟨gc, gp⟩, ⟨li, lc, lu, lk⟩, ⟨fz, fr, fb⟩, ⟨tz, tr, tb⟩, n⟩ := e
  have hsz : w.heap.size < (w.alloc (celE (k, (gc, gp), (li, lc, lu, lk), (fz, fr, fb), (tz, tr, tb), n))).heap.size := by simp
  unfold agE celE at *
  simp only at *
  have hmv : (k.toList == (⟨#[109, 111, 118, 101]⟩ : ByteArray).data.toList) = false := other_word (by rcases hk with rfl | rfl <;> decide)
  simp only at hmv
  have hB01 : Below (w.alloc (.cells #[.string k, .string gc, .int .i64 gp, .string li, .string lc, .int .i64 lu, .int .i64 lk, .string fz, .int .i64 fr, .int .i64 fb, .string tz, .int .i64 tr, .int .i64 tb, .int .i64 n] 29)).heap.size (w.alloc (.cells #[.string k, .string gc, .int .i64 gp, .string li, .string lc, .int .i64 lu, .int .i64 lk, .string fz, .int .i64 fr, .int .i64 fb, .string tz, .int .i64 tr, .int .i64 tb, .int .i64 n] 29)) (w.alloc (.cells #[.string k, .string gc, .int .i64 gp, .string li, .string lc, .int .i64 lu, .int .i64 lk, .string fz, .int .i64 fr, .int .i64 fb, .string tz, .int .i64 tr, .int .i64 tb, .int .i64 n] 29)) := Below.refl _ _
  have hE1 := hE.below hB01
  have hB1 : Below w.heap.size w (w.alloc (.cells #[.string k, .string gc, .int .i64 gp, .string li, .string lc, .int .i64 lu, .int .i64 lk, .string fz, .int .i64 fr, .int .i64 fb, .string tz, .int .i64 tr, .int .i64 tb, .int .i64 n] 29)) := hB.trans (hB01.mono hB.size)
  have hS1 := HS.out _ hB1
  have hkd := hS1.three.two.name
  have hbd := hS1.three.two.bound
  have hsh := hS1.shape
  obtain ⟨a0, a1, a2, a3, a4, a5, a6, a7, a8, a9, a10, a11, a12, a13⟩ := hE1.at
  simp only at a0 a1 a2 a3 a4 a5 a6 a7 a8 a9 a10 a11 a12 a13
  have HP : Hid (Calls Tryd.prog 18 _ _ _) := hPl
  clear hPl hE hB hB01 hk
  cases h1 : isName li.data.toList with
  | false =>
    rw [h1] at hN
    have HE : Hid (errP s (pieceErr .hold (k, (gc, gp), (li, lc, lu, lk), (fz, fr, fb), (tz, tr, tb), n)) = err (s 4)) := by
      show _ = _
      unfold pieceErr fromErr toErr numErr kFrom kTo; simp only [h1, Bool.false_eq_true, if_false]
      (try rfl)
    go_enter Tryd.func17, Tryd.ntmps17
    go_wp2_with (first | (go_at_call 18; refine HP.out.mono ?_; rintro e w1 ⟨rfl, rfl⟩) | (go_at_call 25; refine (hN _).mono ?_; rintro e w2 ⟨rfl, rfl⟩))
    go_ret
    exact ⟨by rw [HE.out]; rfl, hB1⟩
  | true =>
    rw [h1] at hN
    rcases (by omega : n < 1 ∨ (1 ≤ n ∧ 1099511627776 < n) ∨ (1 ≤ n ∧ n ≤ 1099511627776)) with q1 | ⟨q1, q2⟩ | ⟨q1, q2⟩
    · have h5 : numW n = false := by unfold numW; simp; omega
      have HE : Hid (errP s (pieceErr .hold (k, (gc, gp), (li, lc, lu, lk), (fz, fr, fb), (tz, tr, tb), n)) = err (s 1)) := by
        show _ = _
        unfold pieceErr fromErr toErr numErr kFrom kTo; simp only [h1, h5, Bool.false_eq_true, if_false, if_true]
        (try rfl)
      clear h5
      go_enter Tryd.func17, Tryd.ntmps17
      go_wp2_with (first | (go_at_call 18; refine HP.out.mono ?_; rintro e w1 ⟨rfl, rfl⟩) | (go_at_call 25; refine (hN _).mono ?_; rintro e w2 ⟨rfl, rfl⟩))
      refine wp_loop_rounds 1 ?_
      rw [rounds_succ]
      go_wp2
      go_ret
      exact ⟨by rw [HE.out]; rfl, hB1⟩
    · have h5 : numW n = false := by unfold numW; simp; omega
      have HE : Hid (errP s (pieceErr .hold (k, (gc, gp), (li, lc, lu, lk), (fz, fr, fb), (tz, tr, tb), n)) = err (s 1)) := by
        show _ = _
        unfold pieceErr fromErr toErr numErr kFrom kTo; simp only [h1, h5, Bool.false_eq_true, if_false, if_true]
        (try rfl)
      clear h5
      go_enter Tryd.func17, Tryd.ntmps17
      go_wp2_with (first | (go_at_call 18; refine HP.out.mono ?_; rintro e w1 ⟨rfl, rfl⟩) | (go_at_call 25; refine (hN _).mono ?_; rintro e w2 ⟨rfl, rfl⟩))
      refine wp_loop_rounds 1 ?_
      rw [rounds_succ]
      go_wp2
      go_ret
      exact ⟨by rw [HE.out]; rfl, hB1⟩
    · have h5 : numW n = true := by unfold numW; simp; omega
      have HE : Hid (errP s (pieceErr .hold (k, (gc, gp), (li, lc, lu, lk), (fz, fr, fb), (tz, tr, tb), n)) = .nilIface) := by
        show _ = _
        unfold pieceErr fromErr toErr numErr kFrom kTo; simp only [h1, h5, if_true, reduceCtorEq, false_and, if_false]
        (try rfl)
      clear h5
      go_enter Tryd.func17, Tryd.ntmps17
      go_wp2_with (first | (go_at_call 18; refine HP.out.mono ?_; rintro e w1 ⟨rfl, rfl⟩) | (go_at_call 25; refine (hN _).mono ?_; rintro e w2 ⟨rfl, rfl⟩))
      refine wp_loop_rounds 1 ?_
      rw [rounds_succ]
      go_wp2
      go_ret
      exact ⟨by rw [HE.out]; rfl, hB1⟩
end Go.Proofs.YtcipbkaopnaiiacDoor
