/-
 What checkPieces answers of an entry of each sort, over every world that holds the sentinels as the program lays them; nothing old is turned.
-/
import Derived.Test.YtppodkkefegbkaaGreatDoorJz9
import Derived.Test.YtppodkkefegbkaaGreatDoorJz4
import Derived.RegionTactic
import Derived.Test.YtppodkkefegbkaaGreatDoorJz8
import Derived.Test.YtppodkkefegbkaaGreatDoorRows
import Derived.Test.YtppodkkefegbkaaGreatDoorJz3
import Derived.LaidMore
import Derived.Lay
import Derived.Carry
import Derived.LaidLaws
import Derived.OpenShut
import Derived.Lib.LaidTab
import Derived.Lib.SmallJoins
import Derived.Deep.Strs
set_option maxRecDepth 100000
set_option maxHeartbeats 16000000
namespace Go.Proofs.YtppodkkefegbkaaGreatDoor
open Go.RowKit Go.Lib Go.Sort
structure Es (w : World) (s : Nat → Addr) : Prop where
 three : Three w s
 shape : w.cell? ⟨0, 0, none⟩ = some (err (s 2))
 kind : w.cell? ⟨7, 0, none⟩ = some (err (s 3))
theorem Es.below {w w' : World} {s : Nat → Addr} (h : Es w s) (hb : Below w.heap.size w w') : Es w' s where
 three := h.three.below hb
 shape := by rw [hb.cell (p := ⟨0, 0, none⟩) (cell_lt h.shape)]; exact h.shape
 kind := by rw [hb.cell (p := ⟨7, 0, none⟩) (cell_lt h.kind)]; exact h.kind
theorem Sent.es {w : World} {s : Nat → Addr} (h : Sent w s) : Es w s := ⟨h.three, h.cell 2 (by decide), h.cell 3 (by decide)⟩
structure Ec (w : World) (s : Nat → Addr) : Prop where
 two : Two w s
 shape : w.cell? ⟨0, 0, none⟩ = some (err (s 2))
 kind : w.cell? ⟨7, 0, none⟩ = some (err (s 3))
theorem Ec.below {w w' : World} {s : Nat → Addr} (h : Ec w s) (hb : Below w.heap.size w w') : Ec w' s where
 two := h.two.below hb
 shape := by rw [hb.cell (p := ⟨0, 0, none⟩) (cell_lt h.shape)]; exact h.shape
 kind := by rw [hb.cell (p := ⟨7, 0, none⟩) (cell_lt h.kind)]; exact h.kind
theorem Es.ec {w : World} {s : Nat → Addr} (h : Es w s) : Ec w s := ⟨h.three.two, h.shape, h.kind⟩
structure SzE (e : En) : Prop where
 k : e.1.size ≤ maxLen
 gc : e.2.1.1.size ≤ maxLen
 li : e.2.2.1.1.size ≤ maxLen
 lc : e.2.2.1.2.1.size ≤ maxLen
 fz : e.2.2.2.1.1.size ≤ maxLen
 tz : e.2.2.2.2.1.1.size ≤ maxLen
theorem Tryz.guardPl : Tryz.prog.eqGuardType Tryz.prog.depth 41 = false := by kernel_rfl
theorem eqPl10 (x y : Pl) (w : World) : (Op.equalIn 10000 41 (.agg #[.string x.1, .int .i64 x.2.1, .int .i64 x.2.2]) (.agg #[.string y.1, .int .i64 y.2.1, .int .i64 y.2.2])).run Tryz.prog w = .ok (decide (x = y)) w := by
 obtain ⟨a, r, b⟩ := x
 obtain ⟨a', r', b'⟩ := y
 have u3 := Tryz.underlying3
 have a3 := Tryz.isAgg3
 have z3 := Tryz.sizeOf3
 have u9 := Tryz.underlying9
 have a9 := Tryz.isAgg9
 have z9 := Tryz.sizeOf9
 have hS : Tryz.prog.underlying 41 = some (.struct (Tryz.prog.fieldsOf 41)) := by kernel_rfl
 have hp : Tryz.prog.stoodInHeld 41 = false := by kernel_rfl
 rw [show (10000 : Nat) = 9999 + 1 from rfl, run_equalIn_agg w 9999 41 _ _ hS hp]
 simp only [Program.fieldsOf, Tryz.underlying41]
 have e3 := same_eq a a'
 go_simp
 by_cases h1 : a = a' <;> by_cases h2 : r = r' <;> by_cases h3 : b = b' <;> simp [h1, h2, h3]
theorem cp_other (e : En) (w : World) (s : Nat → Addr) (hk : NoKind e.1) (hs : Ec w s) :
  Calls Tryz.prog 96 #[agE e] w fun r w' => r = .returned (err (s 3)) ∧ Below w.heap.size w w' := by
 have hB : Below w.heap.size w (w.alloc (celE e)) := (Below.refl _ w).alloc (Nat.le_refl _) _
 have hPl := places_other e.1 w.heap.size (w.alloc (celE e)) hk (BlkE.new w e).at.c0
 have hkd := (hs.below hB).kind
 clear hs hk
 obtain ⟨k, ⟨gc, gp⟩, ⟨li, lc, lu, lk⟩, ⟨fz, fr, fb⟩, ⟨tz, tr, tb⟩, n⟩ := e
 unfold agE celE at *
 simp only at *
 have HP : Hid (Calls Tryz.prog 97 _ _ _) := hPl
 clear hPl
 go_enter Tryz.func96, Tryz.ntmps96
 go_wp2_with (go_at_call 97; refine HP.out.mono ?_; rintro e w1 ⟨rfl, rfl⟩)
 go_ret
 exact ⟨rfl, hB⟩
theorem cp_to (e : En) (w : World) (s : Nat → Addr) (hk : e.1 = kIn ∨ e.1 = kMore) (hz : SzE e) (hs : Ec w s) :
  Calls Tryz.prog 96 #[agE e] w fun r w' => r = .returned (errP s (pieceErr .tow e)) ∧ Below w.heap.size w w' := by
 have hB : Below w.heap.size w (w.alloc (celE e)) := (Below.refl _ w).alloc (Nat.le_refl _) _
 have hE := BlkE.new w e
 have hPl := places_to e.1 w.heap.size (w.alloc (celE e)) hk hE.at.c0
 have hN : ∀ w, Calls Tryz.prog 77 #[.string e.2.2.1.1] w _ := fun w => name_any e.2.2.1.1 w hz.li
 have hT := fun w1 (hb : Below w.heap.size w w1) => pcheck_any e.2.2.2.2.1 w1 s hz.tz (hs.two.below hb)
 have HS : Hid (∀ w1, Below w.heap.size w w1 → Ec w1 s) := fun w1 hb => hs.below hb
 clear hz hs
 obtain ⟨k, ⟨gc, gp⟩, ⟨li, lc, lu, lk⟩, ⟨fz, fr, fb⟩, ⟨tz, tr, tb⟩, n⟩ := e
 have hsz : w.heap.size < (w.alloc (celE (k, (gc, gp), (li, lc, lu, lk), (fz, fr, fb), (tz, tr, tb), n))).heap.size := by simp
 unfold agE celE at *
 unfold agP at *
 simp only at *
 have hmv : (k.toList == (⟨#[109, 111, 118, 101]⟩ : ByteArray).data.toList) = false := other_word (by rcases hk with rfl | rfl <;> decide)
 simp only at hmv
 have hB01 : Below (w.alloc (.cells #[.string k, .string gc, .int .i64 gp, .string li, .string lc, .int .i64 lu, .int .i64 lk, .string fz, .int .i64 fr, .int .i64 fb, .string tz, .int .i64 tr, .int .i64 tb, .int .i64 n] 43)).heap.size (w.alloc (.cells #[.string k, .string gc, .int .i64 gp, .string li, .string lc, .int .i64 lu, .int .i64 lk, .string fz, .int .i64 fr, .int .i64 fb, .string tz, .int .i64 tr, .int .i64 tb, .int .i64 n] 43)) ((w.alloc (.cells #[.string k, .string gc, .int .i64 gp, .string li, .string lc, .int .i64 lu, .int .i64 lk, .string fz, .int .i64 fr, .int .i64 fb, .string tz, .int .i64 tr, .int .i64 tb, .int .i64 n] 43)).alloc (.cells #[.pointer (some ⟨w.heap.size, 10, none⟩)] 161)) := (Below.refl _ _).alloc (Nat.le_refl _) _
 have hE1 := hE.below hB01
 have hB1 : Below w.heap.size w ((w.alloc (.cells #[.string k, .string gc, .int .i64 gp, .string li, .string lc, .int .i64 lu, .int .i64 lk, .string fz, .int .i64 fr, .int .i64 fb, .string tz, .int .i64 tr, .int .i64 tb, .int .i64 n] 43)).alloc (.cells #[.pointer (some ⟨w.heap.size, 10, none⟩)] 161)) := hB.trans (hB01.mono hB.size)
 have hS1 := HS.out _ hB1
 have hkd := hS1.two.name
 have hbd := hS1.two.bound
 have hsh := hS1.shape
 obtain ⟨a0, a1, a2, a3, a4, a5, a6, a7, a8, a9, a10, a11, a12, a13⟩ := hE1.at
 simp only at a0 a1 a2 a3 a4 a5 a6 a7 a8 a9 a10 a11 a12 a13
 have HP : Hid (Calls Tryz.prog 97 _ _ _) := hPl
 clear hPl hE hB hB01 hk
 cases h1 : isName li.data.toList with
 | false =>
  rw [h1] at hN
  have HE : Hid (errP s (pieceErr .tow (k, (gc, gp), (li, lc, lu, lk), (fz, fr, fb), (tz, tr, tb), n)) = err (s 4)) := by
   show _ = _
   unfold pieceErr fromErr toErr numErr kFrom kTo; simp only [h1, Bool.false_eq_true, if_false]
   (try rfl)
  go_enter Tryz.func96, Tryz.ntmps96
  go_wp2_with (first | (go_at_call 97; refine HP.out.mono ?_; rintro e w1 ⟨rfl, rfl⟩) | (go_at_call 77; refine (hN _).mono ?_; rintro e w2 ⟨rfl, rfl⟩))
  go_ret
  exact ⟨by rw [HE.out]; rfl, hB1⟩
 | true =>
  rw [h1] at hN
  by_cases h2 : placeErr (tz, tr, tb) = 0
  ·rw [h2, errP_zero] at hT
   rcases (by omega : n < 1 ∨ (1 ≤ n ∧ 1099511627776 < n) ∨ (1 ≤ n ∧ n ≤ 1099511627776)) with q1 | ⟨q1, q2⟩ | ⟨q1, q2⟩
   ·have h5 : numW n = false := by unfold numW; simp; omega
    have HE : Hid (errP s (pieceErr .tow (k, (gc, gp), (li, lc, lu, lk), (fz, fr, fb), (tz, tr, tb), n)) = err (s 1)) := by
     show _ = _
     unfold pieceErr fromErr toErr numErr kFrom kTo; simp only [h1, h2, h5, Bool.false_eq_true, if_false, if_true]
     (try rfl)
    clear h5
    go_enter Tryz.func96, Tryz.ntmps96
    go_wp2_with (first | (go_at_call 97; refine HP.out.mono ?_; rintro e w1 ⟨rfl, rfl⟩) | (go_at_call 77; refine (hN _).mono ?_; rintro e w2 ⟨rfl, rfl⟩))
    refine wp_loop_rounds 2 ?_
    rw [rounds_succ]
    go_wp2_with (first | (go_at_call_of 76 (Value.agg #[.string tz, .int .i64 tr, .int .i64 tb]); refine (hT _ hB1).mono ?_; rintro e w3 ⟨rfl, hb3⟩; have hBl := hB1.trans (hb3.mono hB1.size); obtain ⟨c0, c1, c2, c3, c4, c5, c6, c7, c8, c9, c10, c11, c12, c13⟩ := (hE1.below hb3).at; simp only at c0 c1 c2 c3 c4 c5 c6 c7 c8 c9 c10 c11 c12 c13; have hS3 := HS.out _ hBl; have hbd3 := hS3.two.bound; have hsh3 := hS3.shape))
    rw [rounds_succ]
    go_wp2_with (first | (go_at_call_of 76 (Value.agg #[.string tz, .int .i64 tr, .int .i64 tb]); refine (hT _ hB1).mono ?_; rintro e w3 ⟨rfl, hb3⟩; have hBl := hB1.trans (hb3.mono hB1.size); obtain ⟨c0, c1, c2, c3, c4, c5, c6, c7, c8, c9, c10, c11, c12, c13⟩ := (hE1.below hb3).at; simp only at c0 c1 c2 c3 c4 c5 c6 c7 c8 c9 c10 c11 c12 c13; have hS3 := HS.out _ hBl; have hbd3 := hS3.two.bound; have hsh3 := hS3.shape))
    go_ret
    exact ⟨by rw [HE.out]; rfl, hBl⟩
   ·have h5 : numW n = false := by unfold numW; simp; omega
    have HE : Hid (errP s (pieceErr .tow (k, (gc, gp), (li, lc, lu, lk), (fz, fr, fb), (tz, tr, tb), n)) = err (s 1)) := by
     show _ = _
     unfold pieceErr fromErr toErr numErr kFrom kTo; simp only [h1, h2, h5, Bool.false_eq_true, if_false, if_true]
     (try rfl)
    clear h5
    go_enter Tryz.func96, Tryz.ntmps96
    go_wp2_with (first | (go_at_call 97; refine HP.out.mono ?_; rintro e w1 ⟨rfl, rfl⟩) | (go_at_call 77; refine (hN _).mono ?_; rintro e w2 ⟨rfl, rfl⟩))
    refine wp_loop_rounds 2 ?_
    rw [rounds_succ]
    go_wp2_with (first | (go_at_call_of 76 (Value.agg #[.string tz, .int .i64 tr, .int .i64 tb]); refine (hT _ hB1).mono ?_; rintro e w3 ⟨rfl, hb3⟩; have hBl := hB1.trans (hb3.mono hB1.size); obtain ⟨c0, c1, c2, c3, c4, c5, c6, c7, c8, c9, c10, c11, c12, c13⟩ := (hE1.below hb3).at; simp only at c0 c1 c2 c3 c4 c5 c6 c7 c8 c9 c10 c11 c12 c13; have hS3 := HS.out _ hBl; have hbd3 := hS3.two.bound; have hsh3 := hS3.shape))
    rw [rounds_succ]
    go_wp2_with (first | (go_at_call_of 76 (Value.agg #[.string tz, .int .i64 tr, .int .i64 tb]); refine (hT _ hB1).mono ?_; rintro e w3 ⟨rfl, hb3⟩; have hBl := hB1.trans (hb3.mono hB1.size); obtain ⟨c0, c1, c2, c3, c4, c5, c6, c7, c8, c9, c10, c11, c12, c13⟩ := (hE1.below hb3).at; simp only at c0 c1 c2 c3 c4 c5 c6 c7 c8 c9 c10 c11 c12 c13; have hS3 := HS.out _ hBl; have hbd3 := hS3.two.bound; have hsh3 := hS3.shape))
    go_ret
    exact ⟨by rw [HE.out]; rfl, hBl⟩
   ·have h5 : numW n = true := by unfold numW; simp; omega
    have HE : Hid (errP s (pieceErr .tow (k, (gc, gp), (li, lc, lu, lk), (fz, fr, fb), (tz, tr, tb), n)) = .nilIface) := by
     show _ = _
     unfold pieceErr fromErr toErr numErr kFrom kTo; simp only [h1, h2, h5, if_true, reduceCtorEq, false_and, if_false]
     (try rfl)
    clear h5
    go_enter Tryz.func96, Tryz.ntmps96
    go_wp2_with (first | (go_at_call 97; refine HP.out.mono ?_; rintro e w1 ⟨rfl, rfl⟩) | (go_at_call 77; refine (hN _).mono ?_; rintro e w2 ⟨rfl, rfl⟩))
    refine wp_loop_rounds 2 ?_
    rw [rounds_succ]
    go_wp2_with (first | (go_at_call_of 76 (Value.agg #[.string tz, .int .i64 tr, .int .i64 tb]); refine (hT _ hB1).mono ?_; rintro e w3 ⟨rfl, hb3⟩; have hBl := hB1.trans (hb3.mono hB1.size); obtain ⟨c0, c1, c2, c3, c4, c5, c6, c7, c8, c9, c10, c11, c12, c13⟩ := (hE1.below hb3).at; simp only at c0 c1 c2 c3 c4 c5 c6 c7 c8 c9 c10 c11 c12 c13; have hS3 := HS.out _ hBl; have hbd3 := hS3.two.bound; have hsh3 := hS3.shape))
    rw [rounds_succ]
    go_wp2_with (first | (go_at_call_of 76 (Value.agg #[.string tz, .int .i64 tr, .int .i64 tb]); refine (hT _ hB1).mono ?_; rintro e w3 ⟨rfl, hb3⟩; have hBl := hB1.trans (hb3.mono hB1.size); obtain ⟨c0, c1, c2, c3, c4, c5, c6, c7, c8, c9, c10, c11, c12, c13⟩ := (hE1.below hb3).at; simp only at c0 c1 c2 c3 c4 c5 c6 c7 c8 c9 c10 c11 c12 c13; have hS3 := HS.out _ hBl; have hbd3 := hS3.two.bound; have hsh3 := hS3.shape))
    go_ret
    exact ⟨by rw [HE.out]; rfl, hBl⟩
  ·have hx := errP_pos s h2
   rw [hx] at hT
   have HE : Hid (errP s (pieceErr .tow (k, (gc, gp), (li, lc, lu, lk), (fz, fr, fb), (tz, tr, tb), n)) = err (s (placeErr (tz, tr, tb) - 1))) := by
    show _ = _
    unfold pieceErr fromErr toErr numErr kFrom kTo; simp only [h1, h2, if_true, if_false, ← hx]
    (try rfl)
   clear hx
   generalize s (placeErr (tz, tr, tb) - 1) = ad at *
   go_enter Tryz.func96, Tryz.ntmps96
   go_wp2_with (first | (go_at_call 97; refine HP.out.mono ?_; rintro e w1 ⟨rfl, rfl⟩) | (go_at_call 77; refine (hN _).mono ?_; rintro e w2 ⟨rfl, rfl⟩))
   refine wp_loop_rounds 2 ?_
   rw [rounds_succ]
   go_wp2_with (first | (go_at_call_of 76 (Value.agg #[.string tz, .int .i64 tr, .int .i64 tb]); refine (hT _ hB1).mono ?_; rintro e w3 ⟨rfl, hb3⟩; have hBl := hB1.trans (hb3.mono hB1.size); obtain ⟨c0, c1, c2, c3, c4, c5, c6, c7, c8, c9, c10, c11, c12, c13⟩ := (hE1.below hb3).at; simp only at c0 c1 c2 c3 c4 c5 c6 c7 c8 c9 c10 c11 c12 c13; have hS3 := HS.out _ hBl; have hbd3 := hS3.two.bound; have hsh3 := hS3.shape))
   go_ret
   exact ⟨by rw [HE.out]; rfl, hBl⟩
theorem cp_hold (e : En) (w : World) (s : Nat → Addr) (hk : e.1 = kHold ∨ e.1 = kFree) (hz : SzE e) (hs : Ec w s) :
  Calls Tryz.prog 96 #[agE e] w fun r w' => r = .returned (errP s (pieceErr .hold e)) ∧ Below w.heap.size w w' := by
 have hB : Below w.heap.size w (w.alloc (celE e)) := (Below.refl _ w).alloc (Nat.le_refl _) _
 have hE := BlkE.new w e
 have hPl := places_hold e.1 w.heap.size (w.alloc (celE e)) hk hE.at.c0
 have hN : ∀ w, Calls Tryz.prog 77 #[.string e.2.2.1.1] w _ := fun w => name_any e.2.2.1.1 w hz.li
 have HS : Hid (∀ w1, Below w.heap.size w w1 → Ec w1 s) := fun w1 hb => hs.below hb
 clear hz hs
 obtain ⟨k, ⟨gc, gp⟩, ⟨li, lc, lu, lk⟩, ⟨fz, fr, fb⟩, ⟨tz, tr, tb⟩, n⟩ := e
 have hsz : w.heap.size < (w.alloc (celE (k, (gc, gp), (li, lc, lu, lk), (fz, fr, fb), (tz, tr, tb), n))).heap.size := by simp
 unfold agE celE at *
 simp only at *
 have hmv : (k.toList == (⟨#[109, 111, 118, 101]⟩ : ByteArray).data.toList) = false := other_word (by rcases hk with rfl | rfl <;> decide)
 simp only at hmv
 have hB01 : Below (w.alloc (.cells #[.string k, .string gc, .int .i64 gp, .string li, .string lc, .int .i64 lu, .int .i64 lk, .string fz, .int .i64 fr, .int .i64 fb, .string tz, .int .i64 tr, .int .i64 tb, .int .i64 n] 43)).heap.size (w.alloc (.cells #[.string k, .string gc, .int .i64 gp, .string li, .string lc, .int .i64 lu, .int .i64 lk, .string fz, .int .i64 fr, .int .i64 fb, .string tz, .int .i64 tr, .int .i64 tb, .int .i64 n] 43)) (w.alloc (.cells #[.string k, .string gc, .int .i64 gp, .string li, .string lc, .int .i64 lu, .int .i64 lk, .string fz, .int .i64 fr, .int .i64 fb, .string tz, .int .i64 tr, .int .i64 tb, .int .i64 n] 43)) := Below.refl _ _
 have hE1 := hE.below hB01
 have hB1 : Below w.heap.size w (w.alloc (.cells #[.string k, .string gc, .int .i64 gp, .string li, .string lc, .int .i64 lu, .int .i64 lk, .string fz, .int .i64 fr, .int .i64 fb, .string tz, .int .i64 tr, .int .i64 tb, .int .i64 n] 43)) := hB.trans (hB01.mono hB.size)
 have hS1 := HS.out _ hB1
 have hkd := hS1.two.name
 have hbd := hS1.two.bound
 have hsh := hS1.shape
 obtain ⟨a0, a1, a2, a3, a4, a5, a6, a7, a8, a9, a10, a11, a12, a13⟩ := hE1.at
 simp only at a0 a1 a2 a3 a4 a5 a6 a7 a8 a9 a10 a11 a12 a13
 have HP : Hid (Calls Tryz.prog 97 _ _ _) := hPl
 clear hPl hE hB hB01 hk
 cases h1 : isName li.data.toList with
 | false =>
  rw [h1] at hN
  have HE : Hid (errP s (pieceErr .hold (k, (gc, gp), (li, lc, lu, lk), (fz, fr, fb), (tz, tr, tb), n)) = err (s 4)) := by
   show _ = _
   unfold pieceErr fromErr toErr numErr kFrom kTo; simp only [h1, Bool.false_eq_true, if_false]
   (try rfl)
  go_enter Tryz.func96, Tryz.ntmps96
  go_wp2_with (first | (go_at_call 97; refine HP.out.mono ?_; rintro e w1 ⟨rfl, rfl⟩) | (go_at_call 77; refine (hN _).mono ?_; rintro e w2 ⟨rfl, rfl⟩))
  go_ret
  exact ⟨by rw [HE.out]; rfl, hB1⟩
 | true =>
  rw [h1] at hN
  rcases (by omega : n < 1 ∨ (1 ≤ n ∧ 1099511627776 < n) ∨ (1 ≤ n ∧ n ≤ 1099511627776)) with q1 | ⟨q1, q2⟩ | ⟨q1, q2⟩
  ·have h5 : numW n = false := by unfold numW; simp; omega
   have HE : Hid (errP s (pieceErr .hold (k, (gc, gp), (li, lc, lu, lk), (fz, fr, fb), (tz, tr, tb), n)) = err (s 1)) := by
    show _ = _
    unfold pieceErr fromErr toErr numErr kFrom kTo; simp only [h1, h5, Bool.false_eq_true, if_false, if_true]
    (try rfl)
   clear h5
   go_enter Tryz.func96, Tryz.ntmps96
   go_wp2_with (first | (go_at_call 97; refine HP.out.mono ?_; rintro e w1 ⟨rfl, rfl⟩) | (go_at_call 77; refine (hN _).mono ?_; rintro e w2 ⟨rfl, rfl⟩))
   refine wp_loop_rounds 1 ?_
   rw [rounds_succ]
   go_wp2
   go_ret
   exact ⟨by rw [HE.out]; rfl, hB1⟩
  ·have h5 : numW n = false := by unfold numW; simp; omega
   have HE : Hid (errP s (pieceErr .hold (k, (gc, gp), (li, lc, lu, lk), (fz, fr, fb), (tz, tr, tb), n)) = err (s 1)) := by
    show _ = _
    unfold pieceErr fromErr toErr numErr kFrom kTo; simp only [h1, h5, Bool.false_eq_true, if_false, if_true]
    (try rfl)
   clear h5
   go_enter Tryz.func96, Tryz.ntmps96
   go_wp2_with (first | (go_at_call 97; refine HP.out.mono ?_; rintro e w1 ⟨rfl, rfl⟩) | (go_at_call 77; refine (hN _).mono ?_; rintro e w2 ⟨rfl, rfl⟩))
   refine wp_loop_rounds 1 ?_
   rw [rounds_succ]
   go_wp2
   go_ret
   exact ⟨by rw [HE.out]; rfl, hB1⟩
  ·have h5 : numW n = true := by unfold numW; simp; omega
   have HE : Hid (errP s (pieceErr .hold (k, (gc, gp), (li, lc, lu, lk), (fz, fr, fb), (tz, tr, tb), n)) = .nilIface) := by
    show _ = _
    unfold pieceErr fromErr toErr numErr kFrom kTo; simp only [h1, h5, if_true, reduceCtorEq, false_and, if_false]
    (try rfl)
   clear h5
   go_enter Tryz.func96, Tryz.ntmps96
   go_wp2_with (first | (go_at_call 97; refine HP.out.mono ?_; rintro e w1 ⟨rfl, rfl⟩) | (go_at_call 77; refine (hN _).mono ?_; rintro e w2 ⟨rfl, rfl⟩))
   refine wp_loop_rounds 1 ?_
   rw [rounds_succ]
   go_wp2
   go_ret
   exact ⟨by rw [HE.out]; rfl, hB1⟩
theorem cp_from (e : En) (w : World) (s : Nat → Addr) (hk : e.1 = kOut ∨ e.1 = kLess) (hz : SzE e) (hs : Ec w s) :
  Calls Tryz.prog 96 #[agE e] w fun r w' => r = .returned (errP s (pieceErr .frm e)) ∧ Below w.heap.size w w' := by
 have hB : Below w.heap.size w (w.alloc (celE e)) := (Below.refl _ w).alloc (Nat.le_refl _) _
 have hE := BlkE.new w e
 have hPl := places_from e.1 w.heap.size (w.alloc (celE e)) hk hE.at.c0
 have hN : ∀ w, Calls Tryz.prog 77 #[.string e.2.2.1.1] w _ := fun w => name_any e.2.2.1.1 w hz.li
 have hF := fun w1 (hb : Below w.heap.size w w1) => pcheck_any e.2.2.2.1 w1 s hz.fz (hs.two.below hb)
 have HS : Hid (∀ w1, Below w.heap.size w w1 → Ec w1 s) := fun w1 hb => hs.below hb
 clear hz hs
 obtain ⟨k, ⟨gc, gp⟩, ⟨li, lc, lu, lk⟩, ⟨fz, fr, fb⟩, ⟨tz, tr, tb⟩, n⟩ := e
 have hsz : w.heap.size < (w.alloc (celE (k, (gc, gp), (li, lc, lu, lk), (fz, fr, fb), (tz, tr, tb), n))).heap.size := by simp
 unfold agE celE at *
 unfold agP at *
 simp only at *
 have hmv : (k.toList == (⟨#[109, 111, 118, 101]⟩ : ByteArray).data.toList) = false := other_word (by rcases hk with rfl | rfl <;> decide)
 simp only at hmv
 have hB01 : Below (w.alloc (.cells #[.string k, .string gc, .int .i64 gp, .string li, .string lc, .int .i64 lu, .int .i64 lk, .string fz, .int .i64 fr, .int .i64 fb, .string tz, .int .i64 tr, .int .i64 tb, .int .i64 n] 43)).heap.size (w.alloc (.cells #[.string k, .string gc, .int .i64 gp, .string li, .string lc, .int .i64 lu, .int .i64 lk, .string fz, .int .i64 fr, .int .i64 fb, .string tz, .int .i64 tr, .int .i64 tb, .int .i64 n] 43)) ((w.alloc (.cells #[.string k, .string gc, .int .i64 gp, .string li, .string lc, .int .i64 lu, .int .i64 lk, .string fz, .int .i64 fr, .int .i64 fb, .string tz, .int .i64 tr, .int .i64 tb, .int .i64 n] 43)).alloc (.cells #[.pointer (some ⟨w.heap.size, 7, none⟩)] 161)) := (Below.refl _ _).alloc (Nat.le_refl _) _
 have hE1 := hE.below hB01
 have hB1 : Below w.heap.size w ((w.alloc (.cells #[.string k, .string gc, .int .i64 gp, .string li, .string lc, .int .i64 lu, .int .i64 lk, .string fz, .int .i64 fr, .int .i64 fb, .string tz, .int .i64 tr, .int .i64 tb, .int .i64 n] 43)).alloc (.cells #[.pointer (some ⟨w.heap.size, 7, none⟩)] 161)) := hB.trans (hB01.mono hB.size)
 have hS1 := HS.out _ hB1
 have hkd := hS1.two.name
 have hbd := hS1.two.bound
 have hsh := hS1.shape
 obtain ⟨a0, a1, a2, a3, a4, a5, a6, a7, a8, a9, a10, a11, a12, a13⟩ := hE1.at
 simp only at a0 a1 a2 a3 a4 a5 a6 a7 a8 a9 a10 a11 a12 a13
 have HP : Hid (Calls Tryz.prog 97 _ _ _) := hPl
 clear hPl hE hB hB01 hk
 cases h1 : isName li.data.toList with
 | false =>
  rw [h1] at hN
  have HE : Hid (errP s (pieceErr .frm (k, (gc, gp), (li, lc, lu, lk), (fz, fr, fb), (tz, tr, tb), n)) = err (s 4)) := by
   show _ = _
   unfold pieceErr fromErr toErr numErr kFrom kTo; simp only [h1, Bool.false_eq_true, if_false]
   (try rfl)
  go_enter Tryz.func96, Tryz.ntmps96
  go_wp2_with (first | (go_at_call 97; refine HP.out.mono ?_; rintro e w1 ⟨rfl, rfl⟩) | (go_at_call 77; refine (hN _).mono ?_; rintro e w2 ⟨rfl, rfl⟩))
  go_ret
  exact ⟨by rw [HE.out]; rfl, hB1⟩
 | true =>
  rw [h1] at hN
  by_cases h2 : placeErr (fz, fr, fb) = 0
  ·rw [h2, errP_zero] at hF
   rcases (by omega : n < 1 ∨ (1 ≤ n ∧ 1099511627776 < n) ∨ (1 ≤ n ∧ n ≤ 1099511627776)) with q1 | ⟨q1, q2⟩ | ⟨q1, q2⟩
   ·have h5 : numW n = false := by unfold numW; simp; omega
    have HE : Hid (errP s (pieceErr .frm (k, (gc, gp), (li, lc, lu, lk), (fz, fr, fb), (tz, tr, tb), n)) = err (s 1)) := by
     show _ = _
     unfold pieceErr fromErr toErr numErr kFrom kTo; simp only [h1, h2, h5, Bool.false_eq_true, if_false, if_true]
     (try rfl)
    clear h5
    go_enter Tryz.func96, Tryz.ntmps96
    go_wp2_with (first | (go_at_call 97; refine HP.out.mono ?_; rintro e w1 ⟨rfl, rfl⟩) | (go_at_call 77; refine (hN _).mono ?_; rintro e w2 ⟨rfl, rfl⟩))
    refine wp_loop_rounds 2 ?_
    rw [rounds_succ]
    go_wp2_with (first | (go_at_call_of 76 (Value.agg #[.string fz, .int .i64 fr, .int .i64 fb]); refine (hF _ hB1).mono ?_; rintro e w3 ⟨rfl, hb3⟩; have hBl := hB1.trans (hb3.mono hB1.size); obtain ⟨c0, c1, c2, c3, c4, c5, c6, c7, c8, c9, c10, c11, c12, c13⟩ := (hE1.below hb3).at; simp only at c0 c1 c2 c3 c4 c5 c6 c7 c8 c9 c10 c11 c12 c13; have hS3 := HS.out _ hBl; have hbd3 := hS3.two.bound; have hsh3 := hS3.shape))
    rw [rounds_succ]
    go_wp2_with (first | (go_at_call_of 76 (Value.agg #[.string fz, .int .i64 fr, .int .i64 fb]); refine (hF _ hB1).mono ?_; rintro e w3 ⟨rfl, hb3⟩; have hBl := hB1.trans (hb3.mono hB1.size); obtain ⟨c0, c1, c2, c3, c4, c5, c6, c7, c8, c9, c10, c11, c12, c13⟩ := (hE1.below hb3).at; simp only at c0 c1 c2 c3 c4 c5 c6 c7 c8 c9 c10 c11 c12 c13; have hS3 := HS.out _ hBl; have hbd3 := hS3.two.bound; have hsh3 := hS3.shape))
    go_ret
    exact ⟨by rw [HE.out]; rfl, hBl⟩
   ·have h5 : numW n = false := by unfold numW; simp; omega
    have HE : Hid (errP s (pieceErr .frm (k, (gc, gp), (li, lc, lu, lk), (fz, fr, fb), (tz, tr, tb), n)) = err (s 1)) := by
     show _ = _
     unfold pieceErr fromErr toErr numErr kFrom kTo; simp only [h1, h2, h5, Bool.false_eq_true, if_false, if_true]
     (try rfl)
    clear h5
    go_enter Tryz.func96, Tryz.ntmps96
    go_wp2_with (first | (go_at_call 97; refine HP.out.mono ?_; rintro e w1 ⟨rfl, rfl⟩) | (go_at_call 77; refine (hN _).mono ?_; rintro e w2 ⟨rfl, rfl⟩))
    refine wp_loop_rounds 2 ?_
    rw [rounds_succ]
    go_wp2_with (first | (go_at_call_of 76 (Value.agg #[.string fz, .int .i64 fr, .int .i64 fb]); refine (hF _ hB1).mono ?_; rintro e w3 ⟨rfl, hb3⟩; have hBl := hB1.trans (hb3.mono hB1.size); obtain ⟨c0, c1, c2, c3, c4, c5, c6, c7, c8, c9, c10, c11, c12, c13⟩ := (hE1.below hb3).at; simp only at c0 c1 c2 c3 c4 c5 c6 c7 c8 c9 c10 c11 c12 c13; have hS3 := HS.out _ hBl; have hbd3 := hS3.two.bound; have hsh3 := hS3.shape))
    rw [rounds_succ]
    go_wp2_with (first | (go_at_call_of 76 (Value.agg #[.string fz, .int .i64 fr, .int .i64 fb]); refine (hF _ hB1).mono ?_; rintro e w3 ⟨rfl, hb3⟩; have hBl := hB1.trans (hb3.mono hB1.size); obtain ⟨c0, c1, c2, c3, c4, c5, c6, c7, c8, c9, c10, c11, c12, c13⟩ := (hE1.below hb3).at; simp only at c0 c1 c2 c3 c4 c5 c6 c7 c8 c9 c10 c11 c12 c13; have hS3 := HS.out _ hBl; have hbd3 := hS3.two.bound; have hsh3 := hS3.shape))
    go_ret
    exact ⟨by rw [HE.out]; rfl, hBl⟩
   ·have h5 : numW n = true := by unfold numW; simp; omega
    have HE : Hid (errP s (pieceErr .frm (k, (gc, gp), (li, lc, lu, lk), (fz, fr, fb), (tz, tr, tb), n)) = .nilIface) := by
     show _ = _
     unfold pieceErr fromErr toErr numErr kFrom kTo; simp only [h1, h2, h5, if_true, reduceCtorEq, false_and, if_false]
     (try rfl)
    clear h5
    go_enter Tryz.func96, Tryz.ntmps96
    go_wp2_with (first | (go_at_call 97; refine HP.out.mono ?_; rintro e w1 ⟨rfl, rfl⟩) | (go_at_call 77; refine (hN _).mono ?_; rintro e w2 ⟨rfl, rfl⟩))
    refine wp_loop_rounds 2 ?_
    rw [rounds_succ]
    go_wp2_with (first | (go_at_call_of 76 (Value.agg #[.string fz, .int .i64 fr, .int .i64 fb]); refine (hF _ hB1).mono ?_; rintro e w3 ⟨rfl, hb3⟩; have hBl := hB1.trans (hb3.mono hB1.size); obtain ⟨c0, c1, c2, c3, c4, c5, c6, c7, c8, c9, c10, c11, c12, c13⟩ := (hE1.below hb3).at; simp only at c0 c1 c2 c3 c4 c5 c6 c7 c8 c9 c10 c11 c12 c13; have hS3 := HS.out _ hBl; have hbd3 := hS3.two.bound; have hsh3 := hS3.shape))
    rw [rounds_succ]
    go_wp2_with (first | (go_at_call_of 76 (Value.agg #[.string fz, .int .i64 fr, .int .i64 fb]); refine (hF _ hB1).mono ?_; rintro e w3 ⟨rfl, hb3⟩; have hBl := hB1.trans (hb3.mono hB1.size); obtain ⟨c0, c1, c2, c3, c4, c5, c6, c7, c8, c9, c10, c11, c12, c13⟩ := (hE1.below hb3).at; simp only at c0 c1 c2 c3 c4 c5 c6 c7 c8 c9 c10 c11 c12 c13; have hS3 := HS.out _ hBl; have hbd3 := hS3.two.bound; have hsh3 := hS3.shape))
    go_ret
    exact ⟨by rw [HE.out]; rfl, hBl⟩
  ·have hx := errP_pos s h2
   rw [hx] at hF
   have HE : Hid (errP s (pieceErr .frm (k, (gc, gp), (li, lc, lu, lk), (fz, fr, fb), (tz, tr, tb), n)) = err (s (placeErr (fz, fr, fb) - 1))) := by
    show _ = _
    unfold pieceErr fromErr toErr numErr kFrom kTo; simp only [h1, h2, if_true, if_false, ← hx]
    (try rfl)
   clear hx
   generalize s (placeErr (fz, fr, fb) - 1) = ad at *
   go_enter Tryz.func96, Tryz.ntmps96
   go_wp2_with (first | (go_at_call 97; refine HP.out.mono ?_; rintro e w1 ⟨rfl, rfl⟩) | (go_at_call 77; refine (hN _).mono ?_; rintro e w2 ⟨rfl, rfl⟩))
   refine wp_loop_rounds 2 ?_
   rw [rounds_succ]
   go_wp2_with (first | (go_at_call_of 76 (Value.agg #[.string fz, .int .i64 fr, .int .i64 fb]); refine (hF _ hB1).mono ?_; rintro e w3 ⟨rfl, hb3⟩; have hBl := hB1.trans (hb3.mono hB1.size); obtain ⟨c0, c1, c2, c3, c4, c5, c6, c7, c8, c9, c10, c11, c12, c13⟩ := (hE1.below hb3).at; simp only at c0 c1 c2 c3 c4 c5 c6 c7 c8 c9 c10 c11 c12 c13; have hS3 := HS.out _ hBl; have hbd3 := hS3.two.bound; have hsh3 := hS3.shape))
   go_ret
   exact ⟨by rw [HE.out]; rfl, hBl⟩
theorem cp_move (e : En) (w : World) (s : Nat → Addr) (hk : e.1 = kMove) (hz : SzE e) (hs : Ec w s) :
  Calls Tryz.prog 96 #[agE e] w fun r w' => r = .returned (errP s (pieceErr .move e)) ∧ Below w.heap.size w w' := by
 have hB : Below w.heap.size w (w.alloc (celE e)) := (Below.refl _ w).alloc (Nat.le_refl _) _
 have hE := BlkE.new w e
 have hPl := places_move w.heap.size (w.alloc (celE e)) (by rw [← hk]; exact hE.at.c0)
 have hN : ∀ w, Calls Tryz.prog 77 #[.string e.2.2.1.1] w _ := fun w => name_any e.2.2.1.1 w hz.li
 have hF := fun w1 (hb : Below w.heap.size w w1) => pcheck_any e.2.2.2.1 w1 s hz.fz (hs.two.below hb)
 have hT := fun w1 (hb : Below w.heap.size w w1) => pcheck_any e.2.2.2.2.1 w1 s hz.tz (hs.two.below hb)
 have HS : Hid (∀ w1, Below w.heap.size w w1 → Ec w1 s) := fun w1 hb => hs.below hb
 clear hz hs
 obtain ⟨k, ⟨gc, gp⟩, ⟨li, lc, lu, lk⟩, ⟨fz, fr, fb⟩, ⟨tz, tr, tb⟩, n⟩ := e
 have hsz : w.heap.size < (w.alloc (celE (k, (gc, gp), (li, lc, lu, lk), (fz, fr, fb), (tz, tr, tb), n))).heap.size := by simp
 unfold agE celE at *
 unfold agP at *
 simp only at *
 subst hk
 have hB01 : Below (w.alloc (.cells #[.string kMove, .string gc, .int .i64 gp, .string li, .string lc, .int .i64 lu, .int .i64 lk, .string fz, .int .i64 fr, .int .i64 fb, .string tz, .int .i64 tr, .int .i64 tb, .int .i64 n] 43)).heap.size (w.alloc (.cells #[.string kMove, .string gc, .int .i64 gp, .string li, .string lc, .int .i64 lu, .int .i64 lk, .string fz, .int .i64 fr, .int .i64 fb, .string tz, .int .i64 tr, .int .i64 tb, .int .i64 n] 43)) ((w.alloc (.cells #[.string kMove, .string gc, .int .i64 gp, .string li, .string lc, .int .i64 lu, .int .i64 lk, .string fz, .int .i64 fr, .int .i64 fb, .string tz, .int .i64 tr, .int .i64 tb, .int .i64 n] 43)).alloc (.cells #[.pointer (some ⟨w.heap.size, 7, none⟩), .pointer (some ⟨w.heap.size, 10, none⟩)] 161)).drew := ((Below.refl _ _).alloc (Nat.le_refl _) _).drew
 have hE1 := hE.below hB01
 have hB1 : Below w.heap.size w ((w.alloc (.cells #[.string kMove, .string gc, .int .i64 gp, .string li, .string lc, .int .i64 lu, .int .i64 lk, .string fz, .int .i64 fr, .int .i64 fb, .string tz, .int .i64 tr, .int .i64 tb, .int .i64 n] 43)).alloc (.cells #[.pointer (some ⟨w.heap.size, 7, none⟩), .pointer (some ⟨w.heap.size, 10, none⟩)] 161)).drew := hB.trans (hB01.mono hB.size)
 have hS1 := HS.out _ hB1
 have hkd := hS1.two.name
 have hbd := hS1.two.bound
 have hsh := hS1.shape
 obtain ⟨a0, a1, a2, a3, a4, a5, a6, a7, a8, a9, a10, a11, a12, a13⟩ := hE1.at
 simp only at a0 a1 a2 a3 a4 a5 a6 a7 a8 a9 a10 a11 a12 a13
 have HP : Hid (Calls Tryz.prog 97 _ _ _) := hPl
 clear hPl hE hB hB01
 cases h1 : isName li.data.toList with
 | false =>
  rw [h1] at hN
  have HE : Hid (errP s (pieceErr .move (kMove, (gc, gp), (li, lc, lu, lk), (fz, fr, fb), (tz, tr, tb), n)) = err (s 4)) := by
   show _ = _
   unfold pieceErr fromErr toErr numErr kFrom kTo; simp only [h1, Bool.false_eq_true, if_false]
   (try rfl)
  go_enter Tryz.func96, Tryz.ntmps96
  go_wp2_with (first | (go_at_call 97; refine HP.out.mono ?_; rintro e w1 ⟨rfl, rfl⟩) | (go_at_call 77; refine (hN _).mono ?_; rintro e w2 ⟨rfl, rfl⟩))
  go_ret
  exact ⟨by rw [HE.out]; rfl, hB1⟩
 | true =>
  rw [h1] at hN
  have hp1 : ((w.alloc (.cells #[.string kMove, .string gc, .int .i64 gp, .string li, .string lc, .int .i64 lu, .int .i64 lk, .string fz, .int .i64 fr, .int .i64 fb, .string tz, .int .i64 tr, .int .i64 tb, .int .i64 n] 43)).alloc (.cells #[.pointer (some ⟨w.heap.size, 7, none⟩), .pointer (some ⟨w.heap.size, 10, none⟩)] 161)).drew.cell? ⟨w.heap.size + 1, 1, none⟩ = some (.pointer (some ⟨w.heap.size, 10, none⟩)) := by simp
  by_cases h2 : placeErr (fz, fr, fb) = 0
  ·rw [h2, errP_zero] at hF
   by_cases h3 : placeErr (tz, tr, tb) = 0
   ·rw [h3, errP_zero] at hT
    rcases (by omega : n < 1 ∨ (1 ≤ n ∧ 1099511627776 < n) ∨ (1 ≤ n ∧ n ≤ 1099511627776)) with q1 | ⟨q1, q2⟩ | ⟨q1, q2⟩
    ·have h5 : numW n = false := by unfold numW; simp; omega
     have HE : Hid (errP s (pieceErr .move (kMove, (gc, gp), (li, lc, lu, lk), (fz, fr, fb), (tz, tr, tb), n)) = err (s 1)) := by
      show _ = _
      unfold pieceErr fromErr toErr numErr kFrom kTo; simp only [h1, h2, h3, h5, Bool.false_eq_true, if_false, if_true]
      (try rfl)
     clear h5
     go_enter Tryz.func96, Tryz.ntmps96
     go_wp2_with (first | (go_at_call 97; refine HP.out.mono ?_; rintro e w1 ⟨rfl, rfl⟩) | (go_at_call 77; refine (hN _).mono ?_; rintro e w2 ⟨rfl, rfl⟩))
     refine wp_loop_rounds 3 ?_
     rw [rounds_succ]
     go_wp2_with (first | (go_at_call_of 76 (Value.agg #[.string fz, .int .i64 fr, .int .i64 fb]); refine (hF _ hB1).mono ?_; rintro e w3 ⟨rfl, hb3⟩; have hBl := hB1.trans (hb3.mono hB1.size); obtain ⟨c0, c1, c2, c3, c4, c5, c6, c7, c8, c9, c10, c11, c12, c13⟩ := (hE1.below hb3).at; simp only at c0 c1 c2 c3 c4 c5 c6 c7 c8 c9 c10 c11 c12 c13; have hp3 : w3.cell? ⟨w.heap.size + 1, 1, none⟩ = some (.pointer (some ⟨w.heap.size, 10, none⟩)) := (hb3.cell (p := ⟨w.heap.size + 1, 1, none⟩) (by simp)).trans hp1; have hS3 := HS.out _ hBl; have hbd3 := hS3.two.bound; have hsh3 := hS3.shape) | (go_at_call_of 76 (Value.agg #[.string tz, .int .i64 tr, .int .i64 tb]); refine (hT _ hBl).mono ?_; rintro e w4 ⟨rfl, hb4⟩; have hBl4 := hBl.trans (hb4.mono hBl.size); obtain ⟨d0, d1, d2, d3, d4, d5, d6, d7, d8, d9, d10, d11, d12, d13⟩ := ((hE1.below hb3).below hb4).at; simp only at d0 d1 d2 d3 d4 d5 d6 d7 d8 d9 d10 d11 d12 d13; have hS4 := HS.out _ hBl4; have hbd4 := hS4.two.bound; have hsh4 := hS4.shape))
     rw [rounds_succ]
     go_wp2_with (first | (go_at_call_of 76 (Value.agg #[.string fz, .int .i64 fr, .int .i64 fb]); refine (hF _ hB1).mono ?_; rintro e w3 ⟨rfl, hb3⟩; have hBl := hB1.trans (hb3.mono hB1.size); obtain ⟨c0, c1, c2, c3, c4, c5, c6, c7, c8, c9, c10, c11, c12, c13⟩ := (hE1.below hb3).at; simp only at c0 c1 c2 c3 c4 c5 c6 c7 c8 c9 c10 c11 c12 c13; have hp3 : w3.cell? ⟨w.heap.size + 1, 1, none⟩ = some (.pointer (some ⟨w.heap.size, 10, none⟩)) := (hb3.cell (p := ⟨w.heap.size + 1, 1, none⟩) (by simp)).trans hp1; have hS3 := HS.out _ hBl; have hbd3 := hS3.two.bound; have hsh3 := hS3.shape) | (go_at_call_of 76 (Value.agg #[.string tz, .int .i64 tr, .int .i64 tb]); refine (hT _ hBl).mono ?_; rintro e w4 ⟨rfl, hb4⟩; have hBl4 := hBl.trans (hb4.mono hBl.size); obtain ⟨d0, d1, d2, d3, d4, d5, d6, d7, d8, d9, d10, d11, d12, d13⟩ := ((hE1.below hb3).below hb4).at; simp only at d0 d1 d2 d3 d4 d5 d6 d7 d8 d9 d10 d11 d12 d13; have hS4 := HS.out _ hBl4; have hbd4 := hS4.two.bound; have hsh4 := hS4.shape))
     rw [rounds_succ]
     go_wp2_with (first | (go_at_call_of 76 (Value.agg #[.string fz, .int .i64 fr, .int .i64 fb]); refine (hF _ hB1).mono ?_; rintro e w3 ⟨rfl, hb3⟩; have hBl := hB1.trans (hb3.mono hB1.size); obtain ⟨c0, c1, c2, c3, c4, c5, c6, c7, c8, c9, c10, c11, c12, c13⟩ := (hE1.below hb3).at; simp only at c0 c1 c2 c3 c4 c5 c6 c7 c8 c9 c10 c11 c12 c13; have hp3 : w3.cell? ⟨w.heap.size + 1, 1, none⟩ = some (.pointer (some ⟨w.heap.size, 10, none⟩)) := (hb3.cell (p := ⟨w.heap.size + 1, 1, none⟩) (by simp)).trans hp1; have hS3 := HS.out _ hBl; have hbd3 := hS3.two.bound; have hsh3 := hS3.shape) | (go_at_call_of 76 (Value.agg #[.string tz, .int .i64 tr, .int .i64 tb]); refine (hT _ hBl).mono ?_; rintro e w4 ⟨rfl, hb4⟩; have hBl4 := hBl.trans (hb4.mono hBl.size); obtain ⟨d0, d1, d2, d3, d4, d5, d6, d7, d8, d9, d10, d11, d12, d13⟩ := ((hE1.below hb3).below hb4).at; simp only at d0 d1 d2 d3 d4 d5 d6 d7 d8 d9 d10 d11 d12 d13; have hS4 := HS.out _ hBl4; have hbd4 := hS4.two.bound; have hsh4 := hS4.shape))
     go_ret
     exact ⟨by rw [HE.out]; rfl, hBl4⟩
    ·have h5 : numW n = false := by unfold numW; simp; omega
     have HE : Hid (errP s (pieceErr .move (kMove, (gc, gp), (li, lc, lu, lk), (fz, fr, fb), (tz, tr, tb), n)) = err (s 1)) := by
      show _ = _
      unfold pieceErr fromErr toErr numErr kFrom kTo; simp only [h1, h2, h3, h5, Bool.false_eq_true, if_false, if_true]
      (try rfl)
     clear h5
     go_enter Tryz.func96, Tryz.ntmps96
     go_wp2_with (first | (go_at_call 97; refine HP.out.mono ?_; rintro e w1 ⟨rfl, rfl⟩) | (go_at_call 77; refine (hN _).mono ?_; rintro e w2 ⟨rfl, rfl⟩))
     refine wp_loop_rounds 3 ?_
     rw [rounds_succ]
     go_wp2_with (first | (go_at_call_of 76 (Value.agg #[.string fz, .int .i64 fr, .int .i64 fb]); refine (hF _ hB1).mono ?_; rintro e w3 ⟨rfl, hb3⟩; have hBl := hB1.trans (hb3.mono hB1.size); obtain ⟨c0, c1, c2, c3, c4, c5, c6, c7, c8, c9, c10, c11, c12, c13⟩ := (hE1.below hb3).at; simp only at c0 c1 c2 c3 c4 c5 c6 c7 c8 c9 c10 c11 c12 c13; have hp3 : w3.cell? ⟨w.heap.size + 1, 1, none⟩ = some (.pointer (some ⟨w.heap.size, 10, none⟩)) := (hb3.cell (p := ⟨w.heap.size + 1, 1, none⟩) (by simp)).trans hp1; have hS3 := HS.out _ hBl; have hbd3 := hS3.two.bound; have hsh3 := hS3.shape) | (go_at_call_of 76 (Value.agg #[.string tz, .int .i64 tr, .int .i64 tb]); refine (hT _ hBl).mono ?_; rintro e w4 ⟨rfl, hb4⟩; have hBl4 := hBl.trans (hb4.mono hBl.size); obtain ⟨d0, d1, d2, d3, d4, d5, d6, d7, d8, d9, d10, d11, d12, d13⟩ := ((hE1.below hb3).below hb4).at; simp only at d0 d1 d2 d3 d4 d5 d6 d7 d8 d9 d10 d11 d12 d13; have hS4 := HS.out _ hBl4; have hbd4 := hS4.two.bound; have hsh4 := hS4.shape))
     rw [rounds_succ]
     go_wp2_with (first | (go_at_call_of 76 (Value.agg #[.string fz, .int .i64 fr, .int .i64 fb]); refine (hF _ hB1).mono ?_; rintro e w3 ⟨rfl, hb3⟩; have hBl := hB1.trans (hb3.mono hB1.size); obtain ⟨c0, c1, c2, c3, c4, c5, c6, c7, c8, c9, c10, c11, c12, c13⟩ := (hE1.below hb3).at; simp only at c0 c1 c2 c3 c4 c5 c6 c7 c8 c9 c10 c11 c12 c13; have hp3 : w3.cell? ⟨w.heap.size + 1, 1, none⟩ = some (.pointer (some ⟨w.heap.size, 10, none⟩)) := (hb3.cell (p := ⟨w.heap.size + 1, 1, none⟩) (by simp)).trans hp1; have hS3 := HS.out _ hBl; have hbd3 := hS3.two.bound; have hsh3 := hS3.shape) | (go_at_call_of 76 (Value.agg #[.string tz, .int .i64 tr, .int .i64 tb]); refine (hT _ hBl).mono ?_; rintro e w4 ⟨rfl, hb4⟩; have hBl4 := hBl.trans (hb4.mono hBl.size); obtain ⟨d0, d1, d2, d3, d4, d5, d6, d7, d8, d9, d10, d11, d12, d13⟩ := ((hE1.below hb3).below hb4).at; simp only at d0 d1 d2 d3 d4 d5 d6 d7 d8 d9 d10 d11 d12 d13; have hS4 := HS.out _ hBl4; have hbd4 := hS4.two.bound; have hsh4 := hS4.shape))
     rw [rounds_succ]
     go_wp2_with (first | (go_at_call_of 76 (Value.agg #[.string fz, .int .i64 fr, .int .i64 fb]); refine (hF _ hB1).mono ?_; rintro e w3 ⟨rfl, hb3⟩; have hBl := hB1.trans (hb3.mono hB1.size); obtain ⟨c0, c1, c2, c3, c4, c5, c6, c7, c8, c9, c10, c11, c12, c13⟩ := (hE1.below hb3).at; simp only at c0 c1 c2 c3 c4 c5 c6 c7 c8 c9 c10 c11 c12 c13; have hp3 : w3.cell? ⟨w.heap.size + 1, 1, none⟩ = some (.pointer (some ⟨w.heap.size, 10, none⟩)) := (hb3.cell (p := ⟨w.heap.size + 1, 1, none⟩) (by simp)).trans hp1; have hS3 := HS.out _ hBl; have hbd3 := hS3.two.bound; have hsh3 := hS3.shape) | (go_at_call_of 76 (Value.agg #[.string tz, .int .i64 tr, .int .i64 tb]); refine (hT _ hBl).mono ?_; rintro e w4 ⟨rfl, hb4⟩; have hBl4 := hBl.trans (hb4.mono hBl.size); obtain ⟨d0, d1, d2, d3, d4, d5, d6, d7, d8, d9, d10, d11, d12, d13⟩ := ((hE1.below hb3).below hb4).at; simp only at d0 d1 d2 d3 d4 d5 d6 d7 d8 d9 d10 d11 d12 d13; have hS4 := HS.out _ hBl4; have hbd4 := hS4.two.bound; have hsh4 := hS4.shape))
     go_ret
     exact ⟨by rw [HE.out]; rfl, hBl4⟩
    ·have h5 : numW n = true := by unfold numW; simp; omega
     have hq := fun W => eqPl10 (fz, fr, fb) (tz, tr, tb) W
     have hG := Tryz.guardPl
     simp only at hq
     by_cases h6 : ((fz, fr, fb) : Pl) = (tz, tr, tb)
     ·rw [decide_eq_true h6] at hq
      have HE : Hid (errP s (pieceErr .move (kMove, (gc, gp), (li, lc, lu, lk), (fz, fr, fb), (tz, tr, tb), n)) = err (s 2)) := by
       show _ = _
       unfold pieceErr fromErr toErr numErr kFrom kTo; simp only [h1, h3, h5, h6, if_true]
       (try rfl)
      clear h5 h6
      go_enter Tryz.func96, Tryz.ntmps96
      go_wp2_with (first | (go_at_call 97; refine HP.out.mono ?_; rintro e w1 ⟨rfl, rfl⟩) | (go_at_call 77; refine (hN _).mono ?_; rintro e w2 ⟨rfl, rfl⟩))
      refine wp_loop_rounds 3 ?_
      rw [rounds_succ]
      go_wp2_with (first | (go_at_call_of 76 (Value.agg #[.string fz, .int .i64 fr, .int .i64 fb]); refine (hF _ hB1).mono ?_; rintro e w3 ⟨rfl, hb3⟩; have hBl := hB1.trans (hb3.mono hB1.size); obtain ⟨c0, c1, c2, c3, c4, c5, c6, c7, c8, c9, c10, c11, c12, c13⟩ := (hE1.below hb3).at; simp only at c0 c1 c2 c3 c4 c5 c6 c7 c8 c9 c10 c11 c12 c13; have hp3 : w3.cell? ⟨w.heap.size + 1, 1, none⟩ = some (.pointer (some ⟨w.heap.size, 10, none⟩)) := (hb3.cell (p := ⟨w.heap.size + 1, 1, none⟩) (by simp)).trans hp1; have hS3 := HS.out _ hBl; have hbd3 := hS3.two.bound; have hsh3 := hS3.shape) | (go_at_call_of 76 (Value.agg #[.string tz, .int .i64 tr, .int .i64 tb]); refine (hT _ hBl).mono ?_; rintro e w4 ⟨rfl, hb4⟩; have hBl4 := hBl.trans (hb4.mono hBl.size); obtain ⟨d0, d1, d2, d3, d4, d5, d6, d7, d8, d9, d10, d11, d12, d13⟩ := ((hE1.below hb3).below hb4).at; simp only at d0 d1 d2 d3 d4 d5 d6 d7 d8 d9 d10 d11 d12 d13; have hS4 := HS.out _ hBl4; have hbd4 := hS4.two.bound; have hsh4 := hS4.shape))
      rw [rounds_succ]
      go_wp2_with (first | (go_at_call_of 76 (Value.agg #[.string fz, .int .i64 fr, .int .i64 fb]); refine (hF _ hB1).mono ?_; rintro e w3 ⟨rfl, hb3⟩; have hBl := hB1.trans (hb3.mono hB1.size); obtain ⟨c0, c1, c2, c3, c4, c5, c6, c7, c8, c9, c10, c11, c12, c13⟩ := (hE1.below hb3).at; simp only at c0 c1 c2 c3 c4 c5 c6 c7 c8 c9 c10 c11 c12 c13; have hp3 : w3.cell? ⟨w.heap.size + 1, 1, none⟩ = some (.pointer (some ⟨w.heap.size, 10, none⟩)) := (hb3.cell (p := ⟨w.heap.size + 1, 1, none⟩) (by simp)).trans hp1; have hS3 := HS.out _ hBl; have hbd3 := hS3.two.bound; have hsh3 := hS3.shape) | (go_at_call_of 76 (Value.agg #[.string tz, .int .i64 tr, .int .i64 tb]); refine (hT _ hBl).mono ?_; rintro e w4 ⟨rfl, hb4⟩; have hBl4 := hBl.trans (hb4.mono hBl.size); obtain ⟨d0, d1, d2, d3, d4, d5, d6, d7, d8, d9, d10, d11, d12, d13⟩ := ((hE1.below hb3).below hb4).at; simp only at d0 d1 d2 d3 d4 d5 d6 d7 d8 d9 d10 d11 d12 d13; have hS4 := HS.out _ hBl4; have hbd4 := hS4.two.bound; have hsh4 := hS4.shape))
      rw [rounds_succ]
      go_wp2_with (first | (go_at_call_of 76 (Value.agg #[.string fz, .int .i64 fr, .int .i64 fb]); refine (hF _ hB1).mono ?_; rintro e w3 ⟨rfl, hb3⟩; have hBl := hB1.trans (hb3.mono hB1.size); obtain ⟨c0, c1, c2, c3, c4, c5, c6, c7, c8, c9, c10, c11, c12, c13⟩ := (hE1.below hb3).at; simp only at c0 c1 c2 c3 c4 c5 c6 c7 c8 c9 c10 c11 c12 c13; have hp3 : w3.cell? ⟨w.heap.size + 1, 1, none⟩ = some (.pointer (some ⟨w.heap.size, 10, none⟩)) := (hb3.cell (p := ⟨w.heap.size + 1, 1, none⟩) (by simp)).trans hp1; have hS3 := HS.out _ hBl; have hbd3 := hS3.two.bound; have hsh3 := hS3.shape) | (go_at_call_of 76 (Value.agg #[.string tz, .int .i64 tr, .int .i64 tb]); refine (hT _ hBl).mono ?_; rintro e w4 ⟨rfl, hb4⟩; have hBl4 := hBl.trans (hb4.mono hBl.size); obtain ⟨d0, d1, d2, d3, d4, d5, d6, d7, d8, d9, d10, d11, d12, d13⟩ := ((hE1.below hb3).below hb4).at; simp only at d0 d1 d2 d3 d4 d5 d6 d7 d8 d9 d10 d11 d12 d13; have hS4 := HS.out _ hBl4; have hbd4 := hS4.two.bound; have hsh4 := hS4.shape))
      go_ret
      exact ⟨by rw [HE.out]; rfl, hBl4⟩
     ·rw [decide_eq_false h6] at hq
      have HE : Hid (errP s (pieceErr .move (kMove, (gc, gp), (li, lc, lu, lk), (fz, fr, fb), (tz, tr, tb), n)) = .nilIface) := by
       show _ = _
       unfold pieceErr fromErr toErr numErr kFrom kTo; simp only [h1, h2, h3, h5, h6, if_true, and_false, if_false]
       (try rfl)
      clear h5 h6
      go_enter Tryz.func96, Tryz.ntmps96
      go_wp2_with (first | (go_at_call 97; refine HP.out.mono ?_; rintro e w1 ⟨rfl, rfl⟩) | (go_at_call 77; refine (hN _).mono ?_; rintro e w2 ⟨rfl, rfl⟩))
      refine wp_loop_rounds 3 ?_
      rw [rounds_succ]
      go_wp2_with (first | (go_at_call_of 76 (Value.agg #[.string fz, .int .i64 fr, .int .i64 fb]); refine (hF _ hB1).mono ?_; rintro e w3 ⟨rfl, hb3⟩; have hBl := hB1.trans (hb3.mono hB1.size); obtain ⟨c0, c1, c2, c3, c4, c5, c6, c7, c8, c9, c10, c11, c12, c13⟩ := (hE1.below hb3).at; simp only at c0 c1 c2 c3 c4 c5 c6 c7 c8 c9 c10 c11 c12 c13; have hp3 : w3.cell? ⟨w.heap.size + 1, 1, none⟩ = some (.pointer (some ⟨w.heap.size, 10, none⟩)) := (hb3.cell (p := ⟨w.heap.size + 1, 1, none⟩) (by simp)).trans hp1; have hS3 := HS.out _ hBl; have hbd3 := hS3.two.bound; have hsh3 := hS3.shape) | (go_at_call_of 76 (Value.agg #[.string tz, .int .i64 tr, .int .i64 tb]); refine (hT _ hBl).mono ?_; rintro e w4 ⟨rfl, hb4⟩; have hBl4 := hBl.trans (hb4.mono hBl.size); obtain ⟨d0, d1, d2, d3, d4, d5, d6, d7, d8, d9, d10, d11, d12, d13⟩ := ((hE1.below hb3).below hb4).at; simp only at d0 d1 d2 d3 d4 d5 d6 d7 d8 d9 d10 d11 d12 d13; have hS4 := HS.out _ hBl4; have hbd4 := hS4.two.bound; have hsh4 := hS4.shape))
      rw [rounds_succ]
      go_wp2_with (first | (go_at_call_of 76 (Value.agg #[.string fz, .int .i64 fr, .int .i64 fb]); refine (hF _ hB1).mono ?_; rintro e w3 ⟨rfl, hb3⟩; have hBl := hB1.trans (hb3.mono hB1.size); obtain ⟨c0, c1, c2, c3, c4, c5, c6, c7, c8, c9, c10, c11, c12, c13⟩ := (hE1.below hb3).at; simp only at c0 c1 c2 c3 c4 c5 c6 c7 c8 c9 c10 c11 c12 c13; have hp3 : w3.cell? ⟨w.heap.size + 1, 1, none⟩ = some (.pointer (some ⟨w.heap.size, 10, none⟩)) := (hb3.cell (p := ⟨w.heap.size + 1, 1, none⟩) (by simp)).trans hp1; have hS3 := HS.out _ hBl; have hbd3 := hS3.two.bound; have hsh3 := hS3.shape) | (go_at_call_of 76 (Value.agg #[.string tz, .int .i64 tr, .int .i64 tb]); refine (hT _ hBl).mono ?_; rintro e w4 ⟨rfl, hb4⟩; have hBl4 := hBl.trans (hb4.mono hBl.size); obtain ⟨d0, d1, d2, d3, d4, d5, d6, d7, d8, d9, d10, d11, d12, d13⟩ := ((hE1.below hb3).below hb4).at; simp only at d0 d1 d2 d3 d4 d5 d6 d7 d8 d9 d10 d11 d12 d13; have hS4 := HS.out _ hBl4; have hbd4 := hS4.two.bound; have hsh4 := hS4.shape))
      rw [rounds_succ]
      go_wp2_with (first | (go_at_call_of 76 (Value.agg #[.string fz, .int .i64 fr, .int .i64 fb]); refine (hF _ hB1).mono ?_; rintro e w3 ⟨rfl, hb3⟩; have hBl := hB1.trans (hb3.mono hB1.size); obtain ⟨c0, c1, c2, c3, c4, c5, c6, c7, c8, c9, c10, c11, c12, c13⟩ := (hE1.below hb3).at; simp only at c0 c1 c2 c3 c4 c5 c6 c7 c8 c9 c10 c11 c12 c13; have hp3 : w3.cell? ⟨w.heap.size + 1, 1, none⟩ = some (.pointer (some ⟨w.heap.size, 10, none⟩)) := (hb3.cell (p := ⟨w.heap.size + 1, 1, none⟩) (by simp)).trans hp1; have hS3 := HS.out _ hBl; have hbd3 := hS3.two.bound; have hsh3 := hS3.shape) | (go_at_call_of 76 (Value.agg #[.string tz, .int .i64 tr, .int .i64 tb]); refine (hT _ hBl).mono ?_; rintro e w4 ⟨rfl, hb4⟩; have hBl4 := hBl.trans (hb4.mono hBl.size); obtain ⟨d0, d1, d2, d3, d4, d5, d6, d7, d8, d9, d10, d11, d12, d13⟩ := ((hE1.below hb3).below hb4).at; simp only at d0 d1 d2 d3 d4 d5 d6 d7 d8 d9 d10 d11 d12 d13; have hS4 := HS.out _ hBl4; have hbd4 := hS4.two.bound; have hsh4 := hS4.shape))
      go_ret
      exact ⟨by rw [HE.out]; rfl, hBl4⟩
   ·have hx := errP_pos s h3
    rw [hx] at hT
    have HE : Hid (errP s (pieceErr .move (kMove, (gc, gp), (li, lc, lu, lk), (fz, fr, fb), (tz, tr, tb), n)) = err (s (placeErr (tz, tr, tb) - 1))) := by
     show _ = _
     unfold pieceErr fromErr toErr numErr kFrom kTo; simp only [h1, h2, h3, if_true, if_false, ← hx]
     (try rfl)
    clear hx
    generalize s (placeErr (tz, tr, tb) - 1) = ad at *
    go_enter Tryz.func96, Tryz.ntmps96
    go_wp2_with (first | (go_at_call 97; refine HP.out.mono ?_; rintro e w1 ⟨rfl, rfl⟩) | (go_at_call 77; refine (hN _).mono ?_; rintro e w2 ⟨rfl, rfl⟩))
    refine wp_loop_rounds 3 ?_
    rw [rounds_succ]
    go_wp2_with (first | (go_at_call_of 76 (Value.agg #[.string fz, .int .i64 fr, .int .i64 fb]); refine (hF _ hB1).mono ?_; rintro e w3 ⟨rfl, hb3⟩; have hBl := hB1.trans (hb3.mono hB1.size); obtain ⟨c0, c1, c2, c3, c4, c5, c6, c7, c8, c9, c10, c11, c12, c13⟩ := (hE1.below hb3).at; simp only at c0 c1 c2 c3 c4 c5 c6 c7 c8 c9 c10 c11 c12 c13; have hp3 : w3.cell? ⟨w.heap.size + 1, 1, none⟩ = some (.pointer (some ⟨w.heap.size, 10, none⟩)) := (hb3.cell (p := ⟨w.heap.size + 1, 1, none⟩) (by simp)).trans hp1; have hS3 := HS.out _ hBl; have hbd3 := hS3.two.bound; have hsh3 := hS3.shape) | (go_at_call_of 76 (Value.agg #[.string tz, .int .i64 tr, .int .i64 tb]); refine (hT _ hBl).mono ?_; rintro e w4 ⟨rfl, hb4⟩; have hBl4 := hBl.trans (hb4.mono hBl.size); obtain ⟨d0, d1, d2, d3, d4, d5, d6, d7, d8, d9, d10, d11, d12, d13⟩ := ((hE1.below hb3).below hb4).at; simp only at d0 d1 d2 d3 d4 d5 d6 d7 d8 d9 d10 d11 d12 d13; have hS4 := HS.out _ hBl4; have hbd4 := hS4.two.bound; have hsh4 := hS4.shape))
    rw [rounds_succ]
    go_wp2_with (first | (go_at_call_of 76 (Value.agg #[.string fz, .int .i64 fr, .int .i64 fb]); refine (hF _ hB1).mono ?_; rintro e w3 ⟨rfl, hb3⟩; have hBl := hB1.trans (hb3.mono hB1.size); obtain ⟨c0, c1, c2, c3, c4, c5, c6, c7, c8, c9, c10, c11, c12, c13⟩ := (hE1.below hb3).at; simp only at c0 c1 c2 c3 c4 c5 c6 c7 c8 c9 c10 c11 c12 c13; have hp3 : w3.cell? ⟨w.heap.size + 1, 1, none⟩ = some (.pointer (some ⟨w.heap.size, 10, none⟩)) := (hb3.cell (p := ⟨w.heap.size + 1, 1, none⟩) (by simp)).trans hp1; have hS3 := HS.out _ hBl; have hbd3 := hS3.two.bound; have hsh3 := hS3.shape) | (go_at_call_of 76 (Value.agg #[.string tz, .int .i64 tr, .int .i64 tb]); refine (hT _ hBl).mono ?_; rintro e w4 ⟨rfl, hb4⟩; have hBl4 := hBl.trans (hb4.mono hBl.size); obtain ⟨d0, d1, d2, d3, d4, d5, d6, d7, d8, d9, d10, d11, d12, d13⟩ := ((hE1.below hb3).below hb4).at; simp only at d0 d1 d2 d3 d4 d5 d6 d7 d8 d9 d10 d11 d12 d13; have hS4 := HS.out _ hBl4; have hbd4 := hS4.two.bound; have hsh4 := hS4.shape))
    go_ret
    exact ⟨by rw [HE.out]; rfl, hBl4⟩
  ·have hx := errP_pos s h2
   rw [hx] at hF
   have HE : Hid (errP s (pieceErr .move (kMove, (gc, gp), (li, lc, lu, lk), (fz, fr, fb), (tz, tr, tb), n)) = err (s (placeErr (fz, fr, fb) - 1))) := by
    show _ = _
    unfold pieceErr fromErr toErr numErr kFrom kTo; simp only [h1, h2, if_true, if_false, ← hx]
    (try rfl)
   clear hx
   generalize s (placeErr (fz, fr, fb) - 1) = ad at *
   go_enter Tryz.func96, Tryz.ntmps96
   go_wp2_with (first | (go_at_call 97; refine HP.out.mono ?_; rintro e w1 ⟨rfl, rfl⟩) | (go_at_call 77; refine (hN _).mono ?_; rintro e w2 ⟨rfl, rfl⟩))
   refine wp_loop_rounds 3 ?_
   rw [rounds_succ]
   go_wp2_with (first | (go_at_call_of 76 (Value.agg #[.string fz, .int .i64 fr, .int .i64 fb]); refine (hF _ hB1).mono ?_; rintro e w3 ⟨rfl, hb3⟩; have hBl := hB1.trans (hb3.mono hB1.size); obtain ⟨c0, c1, c2, c3, c4, c5, c6, c7, c8, c9, c10, c11, c12, c13⟩ := (hE1.below hb3).at; simp only at c0 c1 c2 c3 c4 c5 c6 c7 c8 c9 c10 c11 c12 c13; have hp3 : w3.cell? ⟨w.heap.size + 1, 1, none⟩ = some (.pointer (some ⟨w.heap.size, 10, none⟩)) := (hb3.cell (p := ⟨w.heap.size + 1, 1, none⟩) (by simp)).trans hp1; have hS3 := HS.out _ hBl; have hbd3 := hS3.two.bound; have hsh3 := hS3.shape) | (go_at_call_of 76 (Value.agg #[.string tz, .int .i64 tr, .int .i64 tb]); refine (hT _ hBl).mono ?_; rintro e w4 ⟨rfl, hb4⟩; have hBl4 := hBl.trans (hb4.mono hBl.size); obtain ⟨d0, d1, d2, d3, d4, d5, d6, d7, d8, d9, d10, d11, d12, d13⟩ := ((hE1.below hb3).below hb4).at; simp only at d0 d1 d2 d3 d4 d5 d6 d7 d8 d9 d10 d11 d12 d13; have hS4 := HS.out _ hBl4; have hbd4 := hS4.two.bound; have hsh4 := hS4.shape))
   go_ret
   exact ⟨by rw [HE.out]; rfl, hBl⟩
theorem others_goods (e : En) (w : World) (hk : e.1 = kGoods) :
  Calls Tryz.prog 67 #[agE e] w fun r w' => r = .returned (agE (othersC .goods e)) ∧ Below w.heap.size w w' := by
 obtain ⟨k, ⟨gc, gp⟩, ⟨li, lc, lu, lk⟩, ⟨fz, fr, fb⟩, ⟨tz, tr, tb⟩, n⟩ := e
 simp only at hk
 subst hk
 unfold othersC agE zeroG
 simp only
 go_enter Tryz.func67, Tryz.ntmps67
 go_wp2
 refine bodyPost_ret (v := .agg #[.string ⟨#[]⟩, .string ⟨#[]⟩, .int .i64 0, .string li, .string lc, .int .i64 lu, .int .i64 lk, .string fz, .int .i64 fr, .int .i64 fb, .string tz, .int .i64 tr, .int .i64 tb, .int .i64 n]) (by simp [results, Tryz.results67, go_sem]) rfl ⟨rfl, ?_⟩
 repeat (first | exact Below.refl _ _ | (refine Below.setCell ?_ (by (try simp); (try omega)) _) | (refine Below.alloc ?_ (by (try simp); (try omega)) _) | (refine Below.drew ?_))
theorem others_lot (e : En) (w : World) (hk : e.1 = kLot) :
  Calls Tryz.prog 67 #[agE e] w fun r w' => r = .returned (agE (othersC .lot e)) ∧ Below w.heap.size w w' := by
 obtain ⟨k, ⟨gc, gp⟩, ⟨li, lc, lu, lk⟩, ⟨fz, fr, fb⟩, ⟨tz, tr, tb⟩, n⟩ := e
 simp only at hk
 subst hk
 unfold othersC agE zeroL
 simp only
 go_enter Tryz.func67, Tryz.ntmps67
 go_wp2
 refine bodyPost_ret (v := .agg #[.string ⟨#[]⟩, .string gc, .int .i64 gp, .string ⟨#[]⟩, .string ⟨#[]⟩, .int .i64 0, .int .i64 0, .string fz, .int .i64 fr, .int .i64 fb, .string tz, .int .i64 tr, .int .i64 tb, .int .i64 n]) (by simp [results, Tryz.results67, go_sem]) rfl ⟨rfl, ?_⟩
 repeat (first | exact Below.refl _ _ | (refine Below.setCell ?_ (by (try simp); (try omega)) _) | (refine Below.alloc ?_ (by (try simp); (try omega)) _) | (refine Below.drew ?_))
theorem others_hold (e : En) (w : World) (hk : e.1 = kHold ∨ e.1 = kFree) :
  Calls Tryz.prog 67 #[agE e] w fun r w' => r = .returned (agE (othersC .hold e)) ∧ Below w.heap.size w w' := by
 have hPl := fun w1 (h0 : w1.cell? ⟨w.heap.size, 0, none⟩ = some (.string e.1)) => places_hold e.1 w.heap.size w1 hk h0
 obtain ⟨k, ⟨gc, gp⟩, ⟨li, lc, lu, lk⟩, ⟨fz, fr, fb⟩, ⟨tz, tr, tb⟩, n⟩ := e
 have hg : (k.toList == (⟨#[103, 111, 111, 100, 115]⟩ : ByteArray).data.toList) = false := other_word (by rcases hk with h | h <;> simp only at h <;> subst h <;> decide)
 have hl : (k.toList == (⟨#[108, 111, 116]⟩ : ByteArray).data.toList) = false := other_word (by rcases hk with h | h <;> simp only at h <;> subst h <;> decide)
 simp only at hg hl
 unfold othersC agE
 unfold kFrom kTo
 simp only [if_false, Bool.false_eq_true] at hPl ⊢
 clear hk
 go_enter Tryz.func67, Tryz.ntmps67
 go_wp2_with (go_at_call 97; refine (hPl _ (by simp)).mono ?_; rintro e w1 ⟨rfl, rfl⟩)
 refine wp_loop_rounds 1 ?_
 rw [rounds_succ]
 go_wp2
 refine bodyPost_ret (v := .agg #[.string ⟨#[]⟩, .string gc, .int .i64 gp, .string ⟨#[]⟩, .string lc, .int .i64 lu, .int .i64 lk, .string fz, .int .i64 fr, .int .i64 fb, .string tz, .int .i64 tr, .int .i64 tb, .int .i64 0]) (by simp [results, Tryz.results67, go_sem]) rfl ⟨rfl, ?_⟩
 repeat (first | exact Below.refl _ _ | (refine Below.setCell ?_ (by (try simp); (try omega)) _) | (refine Below.alloc ?_ (by (try simp); (try omega)) _) | (refine Below.drew ?_))
theorem others_to (e : En) (w : World) (hk : e.1 = kIn ∨ e.1 = kMore) :
  Calls Tryz.prog 67 #[agE e] w fun r w' => r = .returned (agE (othersC .tow e)) ∧ Below w.heap.size w w' := by
 have hPl := fun w1 (h0 : w1.cell? ⟨w.heap.size, 0, none⟩ = some (.string e.1)) => places_to e.1 w.heap.size w1 hk h0
 obtain ⟨k, ⟨gc, gp⟩, ⟨li, lc, lu, lk⟩, ⟨fz, fr, fb⟩, ⟨tz, tr, tb⟩, n⟩ := e
 have hg : (k.toList == (⟨#[103, 111, 111, 100, 115]⟩ : ByteArray).data.toList) = false := other_word (by rcases hk with h | h <;> simp only at h <;> subst h <;> decide)
 have hl : (k.toList == (⟨#[108, 111, 116]⟩ : ByteArray).data.toList) = false := other_word (by rcases hk with h | h <;> simp only at h <;> subst h <;> decide)
 simp only at hg hl
 unfold othersC agE zeroP
 unfold kFrom kTo
 simp only [if_true, if_false, Bool.false_eq_true] at hPl ⊢
 clear hk
 go_enter Tryz.func67, Tryz.ntmps67
 go_wp2_with (go_at_call 97; refine (hPl _ (by simp)).mono ?_; rintro e w1 ⟨rfl, rfl⟩)
 refine wp_loop_rounds 2 ?_
 rw [rounds_succ]
 go_wp2
 rw [rounds_succ]
 go_wp2
 refine bodyPost_ret (v := .agg #[.string ⟨#[]⟩, .string gc, .int .i64 gp, .string ⟨#[]⟩, .string lc, .int .i64 lu, .int .i64 lk, .string fz, .int .i64 fr, .int .i64 fb, .string ⟨#[]⟩, .int .i64 0, .int .i64 0, .int .i64 0]) (by simp [results, Tryz.results67, go_sem]) rfl ⟨rfl, ?_⟩
 repeat (first | exact Below.refl _ _ | (refine Below.setCell ?_ (by (try simp); (try omega)) _) | (refine Below.alloc ?_ (by (try simp); (try omega)) _) | (refine Below.drew ?_))
theorem others_from (e : En) (w : World) (hk : e.1 = kOut ∨ e.1 = kLess) :
  Calls Tryz.prog 67 #[agE e] w fun r w' => r = .returned (agE (othersC .frm e)) ∧ Below w.heap.size w w' := by
 have hPl := fun w1 (h0 : w1.cell? ⟨w.heap.size, 0, none⟩ = some (.string e.1)) => places_from e.1 w.heap.size w1 hk h0
 obtain ⟨k, ⟨gc, gp⟩, ⟨li, lc, lu, lk⟩, ⟨fz, fr, fb⟩, ⟨tz, tr, tb⟩, n⟩ := e
 have hg : (k.toList == (⟨#[103, 111, 111, 100, 115]⟩ : ByteArray).data.toList) = false := other_word (by rcases hk with h | h <;> simp only at h <;> subst h <;> decide)
 have hl : (k.toList == (⟨#[108, 111, 116]⟩ : ByteArray).data.toList) = false := other_word (by rcases hk with h | h <;> simp only at h <;> subst h <;> decide)
 simp only at hg hl
 unfold othersC agE zeroP
 unfold kFrom kTo
 simp only [if_true, if_false, Bool.false_eq_true] at hPl ⊢
 clear hk
 go_enter Tryz.func67, Tryz.ntmps67
 go_wp2_with (go_at_call 97; refine (hPl _ (by simp)).mono ?_; rintro e w1 ⟨rfl, rfl⟩)
 refine wp_loop_rounds 2 ?_
 rw [rounds_succ]
 go_wp2
 rw [rounds_succ]
 go_wp2
 refine bodyPost_ret (v := .agg #[.string ⟨#[]⟩, .string gc, .int .i64 gp, .string ⟨#[]⟩, .string lc, .int .i64 lu, .int .i64 lk, .string ⟨#[]⟩, .int .i64 0, .int .i64 0, .string tz, .int .i64 tr, .int .i64 tb, .int .i64 0]) (by simp [results, Tryz.results67, go_sem]) rfl ⟨rfl, ?_⟩
 repeat (first | exact Below.refl _ _ | (refine Below.setCell ?_ (by (try simp); (try omega)) _) | (refine Below.alloc ?_ (by (try simp); (try omega)) _) | (refine Below.drew ?_))
theorem others_move (e : En) (w : World) (hk : e.1 = kMove) :
  Calls Tryz.prog 67 #[agE e] w fun r w' => r = .returned (agE (othersC .move e)) ∧ Below w.heap.size w w' := by
 have hPl := fun w1 (h0 : w1.cell? ⟨w.heap.size, 0, none⟩ = some (.string e.1)) => places_move w.heap.size w1 (by rw [← hk]; exact h0)
 obtain ⟨k, ⟨gc, gp⟩, ⟨li, lc, lu, lk⟩, ⟨fz, fr, fb⟩, ⟨tz, tr, tb⟩, n⟩ := e
 simp only at hk
 subst hk
 unfold othersC agE zeroP
 unfold kFrom kTo
 simp only [if_true] at hPl ⊢
 go_enter Tryz.func67, Tryz.ntmps67
 go_wp2_with (go_at_call 97; refine (hPl _ (by simp)).mono ?_; rintro e w1 ⟨rfl, rfl⟩)
 refine wp_loop_rounds 3 ?_
 rw [rounds_succ]
 go_wp2
 rw [rounds_succ]
 go_wp2
 rw [rounds_succ]
 go_wp2
 refine bodyPost_ret (v := .agg #[.string ⟨#[]⟩, .string gc, .int .i64 gp, .string ⟨#[]⟩, .string lc, .int .i64 lu, .int .i64 lk, .string ⟨#[]⟩, .int .i64 0, .int .i64 0, .string ⟨#[]⟩, .int .i64 0, .int .i64 0, .int .i64 0]) (by simp [results, Tryz.results67, go_sem]) rfl ⟨rfl, ?_⟩
 repeat (first | exact Below.refl _ _ | (refine Below.setCell ?_ (by (try simp); (try omega)) _) | (refine Below.alloc ?_ (by (try simp); (try omega)) _) | (refine Below.drew ?_))
theorem ownErr_goods {e : En} (h : e.1 = kGoods) : ownErr e = gdErr e.2.1 := by unfold ownErr; rw [h, kd_goods]
theorem ownErr_lot {e : En} (h : e.1 = kLot) : ownErr e = lotErr e.2.2.1 := by unfold ownErr; rw [h, kd_lot]
theorem ownErr_to {e : En} (h : e.1 = kIn ∨ e.1 = kMore) : ownErr e = pieceErr .tow e := by unfold ownErr; rcases h with h | h <;> rw [h] <;> simp only [kd_in, kd_more]
theorem ownErr_from {e : En} (h : e.1 = kOut ∨ e.1 = kLess) : ownErr e = pieceErr .frm e := by unfold ownErr; rcases h with h | h <;> rw [h] <;> simp only [kd_out, kd_less]
theorem ownErr_move {e : En} (h : e.1 = kMove) : ownErr e = pieceErr .move e := by unfold ownErr; rw [h, kd_move]
theorem ownErr_hold {e : En} (h : e.1 = kHold ∨ e.1 = kFree) : ownErr e = pieceErr .hold e := by unfold ownErr; rcases h with h | h <;> rw [h] <;> simp only [kd_hold, kd_free]
theorem ownErr_other {e : En} (h : NoKind e.1) : ownErr e = 4 := by unfold ownErr; rw [h.kd]
theorem pieces_any (e : En) (w : World) (s : Nat → Addr) (hz : SzE e) (hs : Ec w s) (h1 : e.1 ≠ kGoods) (h2 : e.1 ≠ kLot) :
  Calls Tryz.prog 96 #[agE e] w fun r w' => r = .returned (errP s (ownErr e)) ∧ Below w.heap.size w w' := by
 rcases kind_cases e.1 with h | h | h | h | h | h | h
 ·exact absurd h h1
 ·exact absurd h h2
 ·rw [ownErr_to h]; exact cp_to e w s h hz hs
 ·rw [ownErr_from h]; exact cp_from e w s h hz hs
 ·rw [ownErr_move h]; exact cp_move e w s h hz hs
 ·rw [ownErr_hold h]; exact cp_hold e w s h hz hs
 ·rw [ownErr_other h]; exact cp_other e w s h hs
theorem own_goods (e : En) (w : World) (s : Nat → Addr) (hk : e.1 = kGoods) (hz : SzE e) (hs : Ec w s) :
  Calls Tryz.prog 66 #[agE e] w fun r w' => r = .returned (errP s (ownErr e)) ∧ Below w.heap.size w w' := by
 have hB : Below w.heap.size w (w.alloc (celE e)) := (Below.refl _ w).alloc (Nat.le_refl _) _
 have hC := gcheck_any e.2.1 (w.alloc (celE e)) s hz.gc (hs.two.below hB)
 rw [ownErr_goods hk]
 clear hz hs
 generalize errP s (gdErr e.2.1) = V at *
 obtain ⟨k, ⟨gc, gp⟩, ⟨li, lc, lu, lk⟩, ⟨fz, fr, fb⟩, ⟨tz, tr, tb⟩, n⟩ := e
 simp only at hk
 subst hk
 unfold agE celE at *
 simp only at *
 have HC : Hid (Calls Tryz.prog 94 _ _ _) := hC
 clear hC
 go_enter Tryz.func66, Tryz.ntmps66
 go_wp2_with (go_at_call 94; refine HC.out.mono ?_; rintro e w1 ⟨rfl, hb⟩)
 go_ret
 exact ⟨rfl, hB.trans (hb.mono hB.size)⟩
theorem own_lot (e : En) (w : World) (s : Nat → Addr) (hk : e.1 = kLot) (hz : SzE e) (hs : Ec w s) :
  Calls Tryz.prog 66 #[agE e] w fun r w' => r = .returned (errP s (ownErr e)) ∧ Below w.heap.size w w' := by
 have hB : Below w.heap.size w (w.alloc (celE e)) := (Below.refl _ w).alloc (Nat.le_refl _) _
 have hC := lcheck_any e.2.2.1 (w.alloc (celE e)) s hz.li hz.lc (hs.two.below hB)
 rw [ownErr_lot hk]
 clear hz hs
 generalize errP s (lotErr e.2.2.1) = V at *
 obtain ⟨k, ⟨gc, gp⟩, ⟨li, lc, lu, lk⟩, ⟨fz, fr, fb⟩, ⟨tz, tr, tb⟩, n⟩ := e
 simp only at hk
 subst hk
 unfold agE celE agL at *
 simp only at *
 have HC : Hid (Calls Tryz.prog 95 _ _ _) := hC
 clear hC
 go_enter Tryz.func66, Tryz.ntmps66
 go_wp2_with (go_at_call 95; refine HC.out.mono ?_; rintro e w1 ⟨rfl, hb⟩)
 go_ret
 exact ⟨rfl, hB.trans (hb.mono hB.size)⟩
theorem own_pieces (e : En) (w : World) (s : Nat → Addr) (hz : SzE e) (hs : Ec w s) (h1 : e.1 ≠ kGoods) (h2 : e.1 ≠ kLot) :
  Calls Tryz.prog 66 #[agE e] w fun r w' => r = .returned (errP s (ownErr e)) ∧ Below w.heap.size w w' := by
 have hB : Below w.heap.size w (w.alloc (celE e)) := (Below.refl _ w).alloc (Nat.le_refl _) _
 have hC := pieces_any e (w.alloc (celE e)) s hz (hs.below hB) h1 h2
 have e1 := other_word h1
 have e2 := other_word h2
 clear hz hs h1 h2
 generalize errP s (ownErr e) = V at *
 obtain ⟨k, ⟨gc, gp⟩, ⟨li, lc, lu, lk⟩, ⟨fz, fr, fb⟩, ⟨tz, tr, tb⟩, n⟩ := e
 unfold agE celE at *
 simp only at *
 have HC : Hid (Calls Tryz.prog 96 _ _ _) := hC
 clear hC
 go_enter Tryz.func66, Tryz.ntmps66
 go_wp2_with (go_at_call 96; refine HC.out.mono ?_; rintro e w1 ⟨rfl, hb⟩)
 go_ret
 exact ⟨rfl, hB.trans (hb.mono hB.size)⟩
theorem own_any (e : En) (w : World) (s : Nat → Addr) (hz : SzE e) (hs : Ec w s) :
  Calls Tryz.prog 66 #[agE e] w fun r w' => r = .returned (errP s (ownErr e)) ∧ Below w.heap.size w w' := by
 by_cases h1 : e.1 = kGoods
 ·exact own_goods e w s h1 hz hs
 ·by_cases h2 : e.1 = kLot
  ·exact own_lot e w s h2 hz hs
  ·exact own_pieces e w s hz hs h1 h2
theorem others_any (e : En) (w : World) (h : ownErr e ≠ 4) :
  Calls Tryz.prog 67 #[agE e] w fun r w' => r = .returned (agE (othersE e)) ∧ Below w.heap.size w w' := by
 unfold othersE
 rcases kind_cases e.1 with hk | hk | hk | hk | hk | hk | hk
 ·have : kd e.1 = .goods := by rw [hk, kd_goods]
  rw [this]; exact others_goods e w hk
 ·have : kd e.1 = .lot := by rw [hk, kd_lot]
  rw [this]; exact others_lot e w hk
 ·have : kd e.1 = .tow := by rcases hk with hk | hk <;> rw [hk] <;> rfl
  rw [this]; exact others_to e w hk
 ·have : kd e.1 = .frm := by rcases hk with hk | hk <;> rw [hk] <;> rfl
  rw [this]; exact others_from e w hk
 ·have : kd e.1 = .move := by rw [hk, kd_move]
  rw [this]; exact others_move e w hk
 ·have : kd e.1 = .hold := by rcases hk with hk | hk <;> rw [hk] <;> rfl
  rw [this]; exact others_hold e w hk
 ·exact absurd (ownErr_other hk) h
theorem echeck_own (e : En) (w : World) (s : Nat → Addr) (hz : SzE e) (hs : Ec w s) (h : ownErr e ≠ 0) :
  Calls Tryz.prog 34 #[agE e] w fun r w' => r = .returned (errP s (entErr e)) ∧ Below w.heap.size w w' := by
 have hB : Below w.heap.size w (w.alloc (celE e)) := (Below.refl _ w).alloc (Nat.le_refl _) _
 have hC := own_any e (w.alloc (celE e)) s hz (hs.below hB)
 have he : entErr e = ownErr e := by unfold entErr; rw [if_neg h]
 rw [he, errP_pos s h]
 rw [errP_pos s h] at hC
 clear hz hs he h
 generalize s (ownErr e - 1) = ad at *
 obtain ⟨k, ⟨gc, gp⟩, ⟨li, lc, lu, lk⟩, ⟨fz, fr, fb⟩, ⟨tz, tr, tb⟩, n⟩ := e
 unfold agE celE at *
 simp only at *
 have HC : Hid (Calls Tryz.prog 66 _ _ _) := hC
 clear hC
 go_enter Tryz.func34, Tryz.ntmps34
 go_wp2_with (go_at_call 66; refine HC.out.mono ?_; rintro e w1 ⟨rfl, hb⟩)
 go_ret
 exact ⟨rfl, hB.trans (hb.mono hB.size)⟩
theorem echeck_rest (e : En) (w : World) (s : Nat → Addr) (hz : SzE e) (hs : Ec w s) (h : ownErr e = 0) :
  Calls Tryz.prog 34 #[agE e] w fun r w' => r = .returned (errP s (entErr e)) ∧ Below w.heap.size w w' := by
 have hB : Below w.heap.size w (w.alloc (celE e)) := (Below.refl _ w).alloc (Nat.le_refl _) _
 have hE := BlkE.new w e
 have hC := own_any e (w.alloc (celE e)) s hz (hs.below hB)
 rw [h, errP_zero] at hC
 have hO := fun w1 => others_any e w1 (by rw [h]; decide)
 have hQ := fun W => eqE_run (othersE e) zeroE W
 have hG := Tryz.guardE
 have hS := fun w1 (hb : Below w.heap.size w w1) => (hs.below hb).shape
 have he : errP s (entErr e) = if sameE (othersE e) zeroE = true then .nilIface else err (s 2) := by
  unfold entErr; rw [if_pos h]
  cases sameE (othersE e) zeroE <;> rfl
 rw [he]
 clear hz hs he h
 generalize sameE (othersE e) zeroE = D at *
 generalize othersE e = o at *
 obtain ⟨k, ⟨gc, gp⟩, ⟨li, lc, lu, lk⟩, ⟨fz, fr, fb⟩, ⟨tz, tr, tb⟩, n⟩ := e
 obtain ⟨ok, ⟨ogc, ogp⟩, ⟨oli, olc, olu, olk⟩, ⟨ofz, ofr, ofb⟩, ⟨otz, otr, otb⟩, on⟩ := o
 unfold agE at *
 unfold celE at *
 unfold zeroE zeroG zeroL zeroP at hQ
 simp only at *
 have HC : Hid (Calls Tryz.prog 66 _ _ _) := hC
 have HE : Hid (BlkE _ _ _) := hE
 clear hC hE
 cases D
 ·rw [if_neg (by decide)]
  go_enter Tryz.func34, Tryz.ntmps34
  go_wp2_with (first
   | (go_at_call 66; refine HC.out.mono ?_; rintro e w1 ⟨rfl, hb⟩; have hb1 := hB.trans (hb.mono hB.size); obtain ⟨c0, c1, c2, c3, c4, c5, c6, c7, c8, c9, c10, c11, c12, c13⟩ := (HE.out.below hb).at; simp only at c0 c1 c2 c3 c4 c5 c6 c7 c8 c9 c10 c11 c12 c13)
   | (go_at_call 67; refine (hO _).mono ?_; rintro e w2 ⟨rfl, hb2⟩; have hbw := hb1.trans (hb2.mono hb1.size); have hsh := hS _ hbw))
  go_ret
  exact ⟨rfl, hbw⟩
 ·rw [if_pos rfl]
  go_enter Tryz.func34, Tryz.ntmps34
  go_wp2_with (first
   | (go_at_call 66; refine HC.out.mono ?_; rintro e w1 ⟨rfl, hb⟩; have hb1 := hB.trans (hb.mono hB.size); obtain ⟨c0, c1, c2, c3, c4, c5, c6, c7, c8, c9, c10, c11, c12, c13⟩ := (HE.out.below hb).at; simp only at c0 c1 c2 c3 c4 c5 c6 c7 c8 c9 c10 c11 c12 c13)
   | (go_at_call 67; refine (hO _).mono ?_; rintro e w2 ⟨rfl, hb2⟩; have hbw := hb1.trans (hb2.mono hb1.size); have hsh := hS _ hbw))
  go_ret
  exact ⟨rfl, hbw⟩
theorem echeck_any (e : En) (w : World) (s : Nat → Addr) (hz : SzE e) (hs : Ec w s) :
  Calls Tryz.prog 34 #[agE e] w fun r w' => r = .returned (errP s (entErr e)) ∧ Below w.heap.size w w' := by
 by_cases h : ownErr e = 0
 ·exact echeck_rest e w s hz hs h
 ·exact echeck_own e w s hz hs h
theorem hasFrom_any (k : ByteArray) (w : World) : Calls Tryz.prog 91 #[.string k] w fun e w' => e = .returned (.bool (kFrom (kd k))) ∧ w' = w := by
 rcases kind_cases k with rfl | rfl | (rfl | rfl) | (rfl | rfl) | rfl | (rfl | rfl) | hn
 ·go_enter Tryz.func91, Tryz.ntmps91
  go_wp2
  go_ret
  exact ⟨rfl, rfl⟩
 ·go_enter Tryz.func91, Tryz.ntmps91
  go_wp2
  go_ret
  exact ⟨rfl, rfl⟩
 ·go_enter Tryz.func91, Tryz.ntmps91
  go_wp2
  go_ret
  exact ⟨rfl, rfl⟩
 ·go_enter Tryz.func91, Tryz.ntmps91
  go_wp2
  go_ret
  exact ⟨rfl, rfl⟩
 ·go_enter Tryz.func91, Tryz.ntmps91
  go_wp2
  go_ret
  exact ⟨rfl, rfl⟩
 ·go_enter Tryz.func91, Tryz.ntmps91
  go_wp2
  go_ret
  exact ⟨rfl, rfl⟩
 ·go_enter Tryz.func91, Tryz.ntmps91
  go_wp2
  go_ret
  exact ⟨rfl, rfl⟩
 ·go_enter Tryz.func91, Tryz.ntmps91
  go_wp2
  go_ret
  exact ⟨rfl, rfl⟩
 ·go_enter Tryz.func91, Tryz.ntmps91
  go_wp2
  go_ret
  exact ⟨rfl, rfl⟩
 ·have hd := hn.kd
  rw [hd]
  have e1 := other_word hn.in_
  have e2 := other_word hn.more
  have e3 := other_word hn.out
  have e4 := other_word hn.less
  have e5 := other_word hn.move
  simp only at e1 e2 e3 e4 e5
  clear hn hd
  go_enter Tryz.func91, Tryz.ntmps91
  go_wp2
  go_ret
  exact ⟨rfl, rfl⟩
theorem hasTo_any (k : ByteArray) (w : World) : Calls Tryz.prog 92 #[.string k] w fun e w' => e = .returned (.bool (kTo (kd k))) ∧ w' = w := by
 rcases kind_cases k with rfl | rfl | (rfl | rfl) | (rfl | rfl) | rfl | (rfl | rfl) | hn
 ·go_enter Tryz.func92, Tryz.ntmps92
  go_wp2
  go_ret
  exact ⟨rfl, rfl⟩
 ·go_enter Tryz.func92, Tryz.ntmps92
  go_wp2
  go_ret
  exact ⟨rfl, rfl⟩
 ·go_enter Tryz.func92, Tryz.ntmps92
  go_wp2
  go_ret
  exact ⟨rfl, rfl⟩
 ·go_enter Tryz.func92, Tryz.ntmps92
  go_wp2
  go_ret
  exact ⟨rfl, rfl⟩
 ·go_enter Tryz.func92, Tryz.ntmps92
  go_wp2
  go_ret
  exact ⟨rfl, rfl⟩
 ·go_enter Tryz.func92, Tryz.ntmps92
  go_wp2
  go_ret
  exact ⟨rfl, rfl⟩
 ·go_enter Tryz.func92, Tryz.ntmps92
  go_wp2
  go_ret
  exact ⟨rfl, rfl⟩
 ·go_enter Tryz.func92, Tryz.ntmps92
  go_wp2
  go_ret
  exact ⟨rfl, rfl⟩
 ·go_enter Tryz.func92, Tryz.ntmps92
  go_wp2
  go_ret
  exact ⟨rfl, rfl⟩
 ·have hd := hn.kd
  rw [hd]
  have e1 := other_word hn.in_
  have e2 := other_word hn.more
  have e3 := other_word hn.out
  have e4 := other_word hn.less
  have e5 := other_word hn.move
  simp only at e1 e2 e3 e4 e5
  clear hn hd
  go_enter Tryz.func92, Tryz.ntmps92
  go_wp2
  go_ret
  exact ⟨rfl, rfl⟩
theorem isKind_any (k : ByteArray) (w : World) : Calls Tryz.prog 88 #[.string k] w fun e w' => e = .returned (.bool (isKd k)) ∧ w' = w := by
 have hF := fun w => hasFrom_any k w
 have hT := fun w => hasTo_any k w
 rcases kind_cases k with rfl | rfl | (rfl | rfl) | (rfl | rfl) | rfl | (rfl | rfl) | hn
 ·have a1 : kFrom (kd kGoods) = false := by decide
  have a2 : kTo (kd kGoods) = false := by decide
  have a3 : isKd kGoods = true := by decide
  rw [a1] at hF
  rw [a2] at hT
  rw [a3]
  clear a1 a2 a3
  go_enter Tryz.func88, Tryz.ntmps88
  go_wp2_with (first | (go_at_call 91; refine (hF _).mono ?_; rintro e w1 ⟨rfl, rfl⟩) | (go_at_call 92; refine (hT _).mono ?_; rintro e w2 ⟨rfl, rfl⟩))
  go_ret
  exact ⟨rfl, rfl⟩
 ·have a1 : kFrom (kd kLot) = false := by decide
  have a2 : kTo (kd kLot) = false := by decide
  have a3 : isKd kLot = true := by decide
  rw [a1] at hF
  rw [a2] at hT
  rw [a3]
  clear a1 a2 a3
  go_enter Tryz.func88, Tryz.ntmps88
  go_wp2_with (first | (go_at_call 91; refine (hF _).mono ?_; rintro e w1 ⟨rfl, rfl⟩) | (go_at_call 92; refine (hT _).mono ?_; rintro e w2 ⟨rfl, rfl⟩))
  go_ret
  exact ⟨rfl, rfl⟩
 ·have a1 : kFrom (kd kIn) = false := by decide
  have a2 : kTo (kd kIn) = true := by decide
  have a3 : isKd kIn = true := by decide
  rw [a1] at hF
  rw [a2] at hT
  rw [a3]
  clear a1 a2 a3
  go_enter Tryz.func88, Tryz.ntmps88
  go_wp2_with (first | (go_at_call 91; refine (hF _).mono ?_; rintro e w1 ⟨rfl, rfl⟩) | (go_at_call 92; refine (hT _).mono ?_; rintro e w2 ⟨rfl, rfl⟩))
  go_ret
  exact ⟨rfl, rfl⟩
 ·have a1 : kFrom (kd kMore) = false := by decide
  have a2 : kTo (kd kMore) = true := by decide
  have a3 : isKd kMore = true := by decide
  rw [a1] at hF
  rw [a2] at hT
  rw [a3]
  clear a1 a2 a3
  go_enter Tryz.func88, Tryz.ntmps88
  go_wp2_with (first | (go_at_call 91; refine (hF _).mono ?_; rintro e w1 ⟨rfl, rfl⟩) | (go_at_call 92; refine (hT _).mono ?_; rintro e w2 ⟨rfl, rfl⟩))
  go_ret
  exact ⟨rfl, rfl⟩
 ·have a1 : kFrom (kd kOut) = true := by decide
  have a2 : kTo (kd kOut) = false := by decide
  have a3 : isKd kOut = true := by decide
  rw [a1] at hF
  rw [a2] at hT
  rw [a3]
  clear a1 a2 a3
  go_enter Tryz.func88, Tryz.ntmps88
  go_wp2_with (first | (go_at_call 91; refine (hF _).mono ?_; rintro e w1 ⟨rfl, rfl⟩) | (go_at_call 92; refine (hT _).mono ?_; rintro e w2 ⟨rfl, rfl⟩))
  go_ret
  exact ⟨rfl, rfl⟩
 ·have a1 : kFrom (kd kLess) = true := by decide
  have a2 : kTo (kd kLess) = false := by decide
  have a3 : isKd kLess = true := by decide
  rw [a1] at hF
  rw [a2] at hT
  rw [a3]
  clear a1 a2 a3
  go_enter Tryz.func88, Tryz.ntmps88
  go_wp2_with (first | (go_at_call 91; refine (hF _).mono ?_; rintro e w1 ⟨rfl, rfl⟩) | (go_at_call 92; refine (hT _).mono ?_; rintro e w2 ⟨rfl, rfl⟩))
  go_ret
  exact ⟨rfl, rfl⟩
 ·have a1 : kFrom (kd kMove) = true := by decide
  have a2 : kTo (kd kMove) = true := by decide
  have a3 : isKd kMove = true := by decide
  rw [a1] at hF
  rw [a2] at hT
  rw [a3]
  clear a1 a2 a3
  go_enter Tryz.func88, Tryz.ntmps88
  go_wp2_with (first | (go_at_call 91; refine (hF _).mono ?_; rintro e w1 ⟨rfl, rfl⟩) | (go_at_call 92; refine (hT _).mono ?_; rintro e w2 ⟨rfl, rfl⟩))
  go_ret
  exact ⟨rfl, rfl⟩
 ·have a1 : kFrom (kd kHold) = false := by decide
  have a2 : kTo (kd kHold) = false := by decide
  have a3 : isKd kHold = true := by decide
  rw [a1] at hF
  rw [a2] at hT
  rw [a3]
  clear a1 a2 a3
  go_enter Tryz.func88, Tryz.ntmps88
  go_wp2_with (first | (go_at_call 91; refine (hF _).mono ?_; rintro e w1 ⟨rfl, rfl⟩) | (go_at_call 92; refine (hT _).mono ?_; rintro e w2 ⟨rfl, rfl⟩))
  go_ret
  exact ⟨rfl, rfl⟩
 ·have a1 : kFrom (kd kFree) = false := by decide
  have a2 : kTo (kd kFree) = false := by decide
  have a3 : isKd kFree = true := by decide
  rw [a1] at hF
  rw [a2] at hT
  rw [a3]
  clear a1 a2 a3
  go_enter Tryz.func88, Tryz.ntmps88
  go_wp2_with (first | (go_at_call 91; refine (hF _).mono ?_; rintro e w1 ⟨rfl, rfl⟩) | (go_at_call 92; refine (hT _).mono ?_; rintro e w2 ⟨rfl, rfl⟩))
  go_ret
  exact ⟨rfl, rfl⟩
 ·have hd := hn.kd
  have a3 : isKd k = false := by unfold isKd; rw [hd]
  rw [hd] at hF hT
  rw [a3]
  have e1 := other_word hn.goods
  have e2 := other_word hn.lot
  have e3 := other_word hn.hold
  have e4 := other_word hn.free
  simp only at e1 e2 e3 e4
  unfold kFrom at hF
  unfold kTo at hT
  simp only at hF hT
  clear hn hd a3
  go_enter Tryz.func88, Tryz.ntmps88
  go_wp2_with (first | (go_at_call 91; refine (hF _).mono ?_; rintro e w1 ⟨rfl, rfl⟩) | (go_at_call 92; refine (hT _).mono ?_; rintro e w2 ⟨rfl, rfl⟩))
  go_ret
  exact ⟨rfl, rfl⟩
theorem Tryz.guardLo : Tryz.prog.eqGuardType Tryz.prog.depth 39 = false := by kernel_rfl
theorem Tryz.guardGo : Tryz.prog.eqGuardType Tryz.prog.depth 37 = false := by kernel_rfl
theorem eqG10 (x y : Gd) (w : World) : (Op.equalIn 10000 37 (.agg #[.string x.1, .int .i64 x.2]) (.agg #[.string y.1, .int .i64 y.2])).run Tryz.prog w = .ok (decide (x = y)) w := by
 obtain ⟨a, r⟩ := x
 obtain ⟨a', r'⟩ := y
 have u3 := Tryz.underlying3
 have a3 := Tryz.isAgg3
 have z3 := Tryz.sizeOf3
 have u9 := Tryz.underlying9
 have a9 := Tryz.isAgg9
 have z9 := Tryz.sizeOf9
 have hS : Tryz.prog.underlying 37 = some (.struct (Tryz.prog.fieldsOf 37)) := by kernel_rfl
 have hp : Tryz.prog.stoodInHeld 37 = false := by kernel_rfl
 rw [show (10000 : Nat) = 9999 + 1 from rfl, run_equalIn_agg w 9999 37 _ _ hS hp]
 simp only [Program.fieldsOf, Tryz.underlying37]
 have e0 := same_eq a a'
 go_simp
 by_cases h0 : a = a' <;> by_cases h1 : r = r' <;> simp [h0, h1]
theorem eqL10 (x y : Lo) (w : World) : (Op.equalIn 10000 39 (.agg #[.string x.1, .string x.2.1, .int .i64 x.2.2.1, .int .i64 x.2.2.2]) (.agg #[.string y.1, .string y.2.1, .int .i64 y.2.2.1, .int .i64 y.2.2.2])).run Tryz.prog w = .ok (decide (x = y)) w := by
 obtain ⟨a, r, b, k⟩ := x
 obtain ⟨a', r', b', k'⟩ := y
 have u3 := Tryz.underlying3
 have a3 := Tryz.isAgg3
 have z3 := Tryz.sizeOf3
 have u9 := Tryz.underlying9
 have a9 := Tryz.isAgg9
 have z9 := Tryz.sizeOf9
 have hS : Tryz.prog.underlying 39 = some (.struct (Tryz.prog.fieldsOf 39)) := by kernel_rfl
 have hp : Tryz.prog.stoodInHeld 39 = false := by kernel_rfl
 rw [show (10000 : Nat) = 9999 + 1 from rfl, run_equalIn_agg w 9999 39 _ _ hS hp]
 simp only [Program.fieldsOf, Tryz.underlying39]
 have e0 := same_eq a a'
 have e1 := same_eq r r'
 go_simp
 by_cases h0 : a = a' <;> by_cases h1 : r = r' <;> by_cases h2 : b = b' <;> by_cases h3 : k = k' <;> simp [h0, h1, h2, h3]
theorem same_wordR {k z : ByteArray} (h : k = z) : (k.toList == z.data.toList) = true := by
 have := same_eq k z
 rw [decide_eq_true h, Lib.toList_data z] at this
 exact this
theorem ownErr_goodsR {e : En} (h : e.1 = kGoods) : ownErr e = gdErr e.2.1 := by unfold ownErr; rw [h, kd_goods]
theorem ownErr_lotR {e : En} (h : e.1 = kLot) : ownErr e = lotErr e.2.2.1 := by unfold ownErr; rw [h, kd_lot]
theorem ownErr_otherR {e : En} (h : NoKind e.1) : ownErr e = 4 := by unfold ownErr; rw [h.kd]
theorem terr_other (e : En) (w : World) (hk : NoKind e.1) :
  Calls Tryz.prog 60 #[agE e] w fun r w' => r = .returned (.int .i64 (entErr e)) ∧ Below w.heap.size w w' := by
 have hB0 : Below w.heap.size w (w.alloc (celE e)) := (Below.refl _ w).alloc (Nat.le_refl _) _
 have hB1 : Below (w.alloc (celE e)).heap.size (w.alloc (celE e)) ((w.alloc (celE e)).alloc (.cells #[.string ⟨#[]⟩, .int .i64 0, .int .i64 0] 41)) := (Below.refl _ _).alloc (Nat.le_refl _) _
 have hB := hB0.trans (hB1.mono hB0.size)
 have hE := (BlkE.new w e).below hB1
 have hP := BoxAt.new (w.alloc (celE e)) zeroP 41 (w.heap.size + 1) (by simp)
 have hK := fun w => isKind_any e.1 w
 have a3 : isKd e.1 = false := by unfold isKd; rw [hk.kd]
 have he : entErr e = 4 := by unfold entErr; rw [if_neg (by rw [ownErr_otherR hk]; decide), ownErr_otherR hk]
 rw [a3] at hK
 rw [he]
 clear hk a3 he hP hE hB0 hB1
 obtain ⟨k, ⟨gc, gp⟩, ⟨li, lc, lu, lk⟩, ⟨fz, fr, fb⟩, ⟨tz, tr, tb⟩, n⟩ := e
 unfold agE celE at *
 simp only at *
 go_enter Tryz.func60, Tryz.ntmps60
 go_wp2_with (go_at_call 88; refine (hK _).mono ?_; rintro e w1 ⟨rfl, rfl⟩)
 go_ret
 exact ⟨rfl, hB⟩
theorem terr_goods (e : En) (w : World) (hz : SzE e) (hk : e.1 = kGoods) :
  Calls Tryz.prog 60 #[agE e] w fun r w' => r = .returned (.int .i64 (entErr e)) ∧ Below w.heap.size w w' := by
 have hB0 : Below w.heap.size w (w.alloc (celE e)) := (Below.refl _ w).alloc (Nat.le_refl _) _
 have hB1 : Below (w.alloc (celE e)).heap.size (w.alloc (celE e)) ((w.alloc (celE e)).alloc (.cells #[.string ⟨#[]⟩, .int .i64 0, .int .i64 0] 41)) := (Below.refl _ _).alloc (Nat.le_refl _) _
 have hB := hB0.trans (hB1.mono hB0.size)
 have hE := (BlkE.new w e).below hB1
 have hP := BoxAt.new (w.alloc (celE e)) zeroP 41 (w.heap.size + 1) (by simp)
 have hK := fun w => isKind_any e.1 w
 have a3 : isKd e.1 = true := by rw [hk]; decide
 rw [a3] at hK
 have hC := gerror_any e.2.1 ((w.alloc (celE e)).alloc (.cells #[.string ⟨#[]⟩, .int .i64 0, .int .i64 0] 41)) hz.gc
 have ho := ownErr_goodsR hk
 have hd : kd e.1 = .goods := by rw [hk]; rfl
 have hg : (e.1.toList == kGoods.data.toList) = true := same_wordR hk
 simp only at hg
 by_cases h0 : ownErr e = 0
 ·have he : entErr e = if (decide (e.2.2.1 = zeroL) && (decide (e.2.2.2.1 = zeroP) && (decide (e.2.2.2.2.1 = zeroP) && decide (e.2.2.2.2.2 = 0)))) = true then 0 else 3 := by
   unfold entErr othersE
   rw [if_pos h0, hd]
   unfold othersC sameE zeroE
   simp
  rw [he]
  rw [← ho, h0] at hC
  have q1 := fun W => eqL10 e.2.2.1 zeroL W
  have q2 := fun W => eqPl10 e.2.2.2.1 zeroP W
  have q3 := fun W => eqPl10 e.2.2.2.2.1 zeroP W
  have g1 := Tryz.guardLo
  have g2 := Tryz.guardPl
  have hN : e.2.2.2.2.2 = 0 ∨ (e.2.2.2.2.2 == 0) = false := by by_cases h : e.2.2.2.2.2 = 0 <;> simp [h]
  have hNd : decide (e.2.2.2.2.2 = 0) = (e.2.2.2.2.2 == 0) := rfl
  rw [hNd]
  generalize decide (e.2.2.1 = zeroL) = b1 at *
  generalize decide (e.2.2.2.1 = zeroP) = b2 at *
  generalize decide (e.2.2.2.2.1 = zeroP) = b3 at *
  unfold zeroP at *
  unfold zeroL at *
  clear hz hk a3 he ho hd h0 hB0 hB1 hNd
  have HE : Hid (BlkE _ _ _) := hE
  have HP : Hid (BoxAt _ _ _) := hP
  have HC : Hid (Calls Tryz.prog 89 _ _ _) := hC
  have HB : Hid (Below _ _ _) := hB
  clear hE hP hC hB
  obtain ⟨k, ⟨gc, gp⟩, ⟨li, lc, lu, lk⟩, ⟨fz, fr, fb⟩, ⟨tz, tr, tb⟩, n⟩ := e
  unfold agE celE at *
  simp only at *
  rcases hN with rfl | hN
  ·cases b1 <;> cases b2 <;> cases b3
   all_goals
    go_enter Tryz.func60, Tryz.ntmps60
    go_wp2_with (first
     | (go_at_call 88; refine (hK _).mono ?_; rintro e w1 ⟨rfl, rfl⟩)
     | (go_at_call 89; refine HC.out.mono ?_; rintro e w2 ⟨rfl, hb2⟩; have hbw := HB.out.trans (hb2.mono HB.out.size); obtain ⟨c0, c1, c2, c3, c4, c5, c6, c7, c8, c9, c10, c11, c12, c13⟩ := (HE.out.below hb2).at; obtain ⟨p0, p1, p2⟩ := HP.out.below hb2; simp only at c0 c1 c2 c3 c4 c5 c6 c7 c8 c9 c10 c11 c12 c13 p0 p1 p2))
    go_ret
    exact ⟨rfl, hbw⟩
  ·rw [hN]
   cases b1 <;> cases b2 <;> cases b3
   all_goals
    go_enter Tryz.func60, Tryz.ntmps60
    go_wp2_with (first
     | (go_at_call 88; refine (hK _).mono ?_; rintro e w1 ⟨rfl, rfl⟩)
     | (go_at_call 89; refine HC.out.mono ?_; rintro e w2 ⟨rfl, hb2⟩; have hbw := HB.out.trans (hb2.mono HB.out.size); obtain ⟨c0, c1, c2, c3, c4, c5, c6, c7, c8, c9, c10, c11, c12, c13⟩ := (HE.out.below hb2).at; obtain ⟨p0, p1, p2⟩ := HP.out.below hb2; simp only at c0 c1 c2 c3 c4 c5 c6 c7 c8 c9 c10 c11 c12 c13 p0 p1 p2))
    go_ret
    exact ⟨rfl, hbw⟩
 ·have he : entErr e = ownErr e := by unfold entErr; rw [if_neg h0]
  rw [he]
  rw [← ho] at hC
  have hp : (0 : Int) < (ownErr e : Int) := by omega
  generalize (ownErr e : Int) = E at *
  clear hz hk a3 he ho hd h0 hB0 hB1 hE hP
  have HC : Hid (Calls Tryz.prog 89 _ _ _) := hC
  have HB : Hid (Below _ _ _) := hB
  clear hC hB
  obtain ⟨k, ⟨gc, gp⟩, ⟨li, lc, lu, lk⟩, ⟨fz, fr, fb⟩, ⟨tz, tr, tb⟩, n⟩ := e
  unfold agE celE at *
  simp only at *
  go_enter Tryz.func60, Tryz.ntmps60
  go_wp2_with (first
   | (go_at_call 88; refine (hK _).mono ?_; rintro e w1 ⟨rfl, rfl⟩)
   | (go_at_call 89; refine HC.out.mono ?_; rintro e w2 ⟨rfl, hb2⟩; have hbw := HB.out.trans (hb2.mono HB.out.size)))
  go_ret
  exact ⟨rfl, hbw⟩
end Go.Proofs.YtppodkkefegbkaaGreatDoor
namespace Go.Proofs.YtppodkkefegbkaaGreatDoor
open Go.Joins Go.Deep
open Go.ChangeMaps (open_string shut_string)
open Go.ChangeShapes Go.WideShapes Go.ChangeAt Go.WideMaps Go.WideElems Go.RowKit
theorem Tryz.cEnt : Tryz.prog.cellsOf 43 = 14 := by kernel_rfl
theorem Tryz.cPla : Tryz.prog.cellsOf 41 = 3 := by kernel_rfl
theorem Tryz.cGoo : Tryz.prog.cellsOf 37 = 2 := by kernel_rfl
theorem Tryz.cLot : Tryz.prog.cellsOf 39 = 4 := by kernel_rfl
theorem Tryz.cStr : Tryz.prog.cellsOf 9 = 1 := by kernel_rfl
theorem Tryz.cInt : Tryz.prog.cellsOf 3 = 1 := by kernel_rfl
theorem open_pl {H : Type} {enc : TypeId × Value → H} {W : World} {base n : Nat} {c0 c1 c2 : Value} {x : DataW H × List MemPlace} {sp : Nat → Bool} {hd : Bool} (h : DataW.trod enc Tryz.prog W base sp hd n 41 [c0, c1, c2] = some x) :
  ∃ p : Pl, c0 = .string p.1 ∧ c1 = .int .i64 p.2.1 ∧ c2 = .int .i64 p.2.2 ∧ p.1.size ≤ maxLen := by
 obtain ⟨y0, y1, y2, m, hx, _, h0, h1, h2⟩ := trod_struct3 Tryz.underlying41 h
 simp [Tryz.cStr, Tryz.cInt] at h0 h1 h2
 obtain ⟨a, e0, _, wa⟩ := DataW.trod_string Tryz.underlying9 h0
 obtain ⟨r, e1, _, wr⟩ := DataW.trod_int Tryz.underlying3 h1
 obtain ⟨b, e2, _, wb⟩ := DataW.trod_int Tryz.underlying3 h2
 simp at e0 e1 e2
 exact ⟨(a, r, b), e0, e1, e2, wa⟩
theorem open_gd {H : Type} {enc : TypeId × Value → H} {W : World} {base n : Nat} {c0 c1 : Value} {x : DataW H × List MemPlace} {sp : Nat → Bool} {hd : Bool} (h : DataW.trod enc Tryz.prog W base sp hd n 37 [c0, c1] = some x) :
  ∃ p : Gd, c0 = .string p.1 ∧ c1 = .int .i64 p.2 ∧ p.1.size ≤ maxLen := by
 obtain ⟨y0, y1, m, hx, _, h0, h1⟩ := trod_struct2 Tryz.underlying37 h
 simp [Tryz.cStr, Tryz.cInt] at h0 h1
 obtain ⟨a, e0, _, wa⟩ := DataW.trod_string Tryz.underlying9 h0
 obtain ⟨r, e1, _, wr⟩ := DataW.trod_int Tryz.underlying3 h1
 simp at e0 e1
 exact ⟨(a, r), e0, e1, wa⟩
theorem open_lo {H : Type} {enc : TypeId × Value → H} {W : World} {base n : Nat} {c0 c1 c2 c3 : Value} {x : DataW H × List MemPlace} {sp : Nat → Bool} {hd : Bool} (h : DataW.trod enc Tryz.prog W base sp hd n 39 [c0, c1, c2, c3] = some x) :
  ∃ p : Lo, c0 = .string p.1 ∧ c1 = .string p.2.1 ∧ c2 = .int .i64 p.2.2.1 ∧ c3 = .int .i64 p.2.2.2 ∧ p.1.size ≤ maxLen ∧ p.2.1.size ≤ maxLen := by
 obtain ⟨y0, y1, y2, y3, m, hx, _, h0, h1, h2, h3⟩ := trod_struct4 Tryz.underlying39 h
 simp [Tryz.cStr, Tryz.cInt] at h0 h1 h2 h3
 obtain ⟨a, e0, _, wa⟩ := DataW.trod_string Tryz.underlying9 h0
 obtain ⟨c, e1, _, wc⟩ := DataW.trod_string Tryz.underlying9 h1
 obtain ⟨u, e2, _, wu⟩ := DataW.trod_int Tryz.underlying3 h2
 obtain ⟨k, e3, _, wk⟩ := DataW.trod_int Tryz.underlying3 h3
 simp at e0 e1 e2 e3
 exact ⟨(a, c, u, k), e0, e1, e2, e3, wa, wc⟩
end Go.Proofs.YtppodkkefegbkaaGreatDoor
