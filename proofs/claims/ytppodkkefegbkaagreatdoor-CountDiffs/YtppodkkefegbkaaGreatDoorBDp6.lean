/-
 What the reference's Book.Do does where an entry is of pieces.
-/
import Derived.Test.YtppodkkefegbkaaGreatDoorJz25
import Derived.Deep.RegionHeld3
set_option maxRecDepth 100000
set_option maxHeartbeats 16000000
namespace Go.Proofs.YtppodkkefegbkaaGreatDoor
open Go.RowKit Go.Lib Go.Sort
theorem dp_hold_short (w : World) (B q : Nat) (b : Bk) (e : En) (k i : Nat) (l : Lh) (g : Gs) (O : Int) (P : Dp w B q b e k i l g kHold) (HO : ∀ (W : World) (v : Value), encLn.Row W 0 48 v b.2.2 → Calls Tryz.prog 65 #[.agg #[v], .string e.2.2.1.1] W fun r w' => r = .returned (.int .i64 O) ∧ Below W.heap.size W w') (hO : O < l.2 + e.2.2.2.2.2) :
  Calls Tryz.prog 29 #[.pointer (some ⟨q, 0, none⟩), agE e] w fun r w' => r = .returned (.int .i64 9) ∧ RefB w' B q b ∧ Below w.heap.size w w' := by
 have hD := Dw.new P.h e
 have hC0 := terr_any e (w.alloc (celE e)) P.hz
 rw [P.he] at hC0
 obtain ⟨HL, HF, y1, y2, HnG, HnL, hkn, hin, u1, u2, u3, u4, u6, u7, u8, u9, v1, v3, HB0, hz63, hz64⟩ := P.all (by decide) (by decide)
 have hk := P.hk
 have hn1 := P.hn1
 have hn2 := P.hn2
 have x0 : (e.1.toList == kIn.data.toList) = false := other_word (by rw [hk]; decide)
 have x1 : (e.1.toList == kMore.data.toList) = false := other_word (by rw [hk]; decide)
 have x2 : (e.1.toList == kOut.data.toList) = false := other_word (by rw [hk]; decide)
 have x3 : (e.1.toList == kLess.data.toList) = false := other_word (by rw [hk]; decide)
 have x4 : (e.1.toList == kMove.data.toList) = false := other_word (by rw [hk]; decide)
 have x5 : (e.1.toList == kHold.data.toList) = true := same_wordR hk
 unfold mostS at *
 have Hl : Hid (b.2.1[k]? = some l) := P.hl
 have Hg : Hid (b.1[i]? = some g) := P.hg
 clear P hk
 obtain ⟨ak, ⟨agc, agp⟩, ⟨ali, alc, alu, alk⟩, ⟨afz, afr, afb⟩, ⟨atz, atr, atb⟩, an⟩ := e
 obtain ⟨⟨ggc, ggp⟩, t1, t2, t3, t4⟩ := g
 obtain ⟨⟨lli, llc, llu, llk⟩, lh⟩ := l
 unfold agE celE at *
 simp only at *
 have HC : Hid (Calls Tryz.prog 60 _ _ _) := hC0
 have HD : Hid (Dw _ _ _ _ _ _) := hD
 have HOO : Hid (∀ (W : World) (v : Value), _) := HO
 clear hC0 hD HO
 go_enter Tryz.func29, Tryz.ntmps29
 go_wp2_with (first
  | (go_at_call 60; refine HC.out.mono ?_; rintro r w1 ⟨rfl, hb1⟩; have h1 := HD.out.go hb1; obtain ⟨gG, cG, gL, cL, aS, cS, c0, c3, j0, j1, j3, j4, j5, j6, j7, K1, K2, K3, K4, k5⟩ := h1.opn HnG.out HnL.out Hl.out Hg.out; simp only at c0 c3 j3 j4 j5 j6 j7; have H1 : Hid (Dw _ _ _ _ _ _) := h1; clear hb1 h1)
  | (go_at_call 51; refine (HL.out _ H1.out.book).mono ?_; rintro r w2 ⟨rfl, hw9⟩; have hw8 := hw9.symm; subst hw8)
  | (go_at_call 61; refine (HF.out _ H1.out.book).mono ?_; rintro r w2 ⟨rfl, hw9⟩; have hw8 := hw9.symm; subst hw8; obtain ⟨W2, W3, q2, q3, d1, d2, d4, ⟨mq0, mq1, mq2, mqf⟩, ⟨ms0, ms1, ms2, ms3, msf⟩, ⟨mt0, mtf⟩, hE3, H3⟩ := H1.out.box2 K1.out K2.out K3.out K4.out k5 Hl.out t1 t2 t3 t4; have m0 := hE3.c0; have m13 := hE3.c13; simp only at d4 m0 m13; clear hE3)
  | (go_at_call 65; refine (HOO.out _ _ H3.out.S).mono ?_; rintro r w7 ⟨rfl, hb7⟩; have h7 := H3.out.go hb7; obtain ⟨⟨rq0, rq1, rq2, rqf⟩, ⟨rs0, rs1, rs2, rs3, rsf⟩, rt0, rtf⟩ := h7.cells; simp only at rs0 rs1 rs2 rs3; have H7 : Hid (Pw _ _ _ _ _ _ _ _ _ _ _ _ _ _ _) := h7; clear h7 hb7))
 have R3 : Hid (encLn.Row W3 0 48 (.slice aS b.2.2.length cS) b.2.2) := H3.out.S
 go_ret
 exact ⟨rfl, H7.out.book, H7.out.below⟩
theorem dp_hold_ok (w : World) (B q : Nat) (b : Bk) (e : En) (k i : Nat) (l : Lh) (g : Gs) (O : Int) (P : Dp w B q b e k i l g kHold) (HO : ∀ (W : World) (v : Value), encLn.Row W 0 48 v b.2.2 → Calls Tryz.prog 65 #[.agg #[v], .string e.2.2.1.1] W fun r w' => r = .returned (.int .i64 O) ∧ Below W.heap.size W w') (hO : l.2 + e.2.2.2.2.2 ≤ O) (hP : 0 ≤ l.2 + e.2.2.2.2.2) :
  Calls Tryz.prog 29 #[.pointer (some ⟨q, 0, none⟩), agE e] w fun r w' => r = .returned (.int .i64 0) ∧ RefB w' B q (b.1.set i (g.1, g.2.1, g.2.2.1, g.2.2.2.1, g.2.2.2.2), b.2.1.set k (l.1, l.2 + e.2.2.2.2.2), b.2.2) ∧ Turn B w w' := by
 have hD := Dw.new P.h e
 have hC0 := terr_any e (w.alloc (celE e)) P.hz
 rw [P.he] at hC0
 obtain ⟨HL, HF, y1, y2, HnG, HnL, hkn, hin, u1, u2, u3, u4, u6, u7, u8, u9, v1, v3, HB0, hz63, hz64⟩ := P.all (by decide) (by decide)
 have hk := P.hk
 have hn1 := P.hn1
 have hn2 := P.hn2
 have x0 : (e.1.toList == kIn.data.toList) = false := other_word (by rw [hk]; decide)
 have x1 : (e.1.toList == kMore.data.toList) = false := other_word (by rw [hk]; decide)
 have x2 : (e.1.toList == kOut.data.toList) = false := other_word (by rw [hk]; decide)
 have x3 : (e.1.toList == kLess.data.toList) = false := other_word (by rw [hk]; decide)
 have x4 : (e.1.toList == kMove.data.toList) = false := other_word (by rw [hk]; decide)
 have x5 : (e.1.toList == kHold.data.toList) = true := same_wordR hk
 unfold mostS at *
 have Hl : Hid (b.2.1[k]? = some l) := P.hl
 have Hg : Hid (b.1[i]? = some g) := P.hg
 clear P hk
 obtain ⟨ak, ⟨agc, agp⟩, ⟨ali, alc, alu, alk⟩, ⟨afz, afr, afb⟩, ⟨atz, atr, atb⟩, an⟩ := e
 obtain ⟨⟨ggc, ggp⟩, t1, t2, t3, t4⟩ := g
 obtain ⟨⟨lli, llc, llu, llk⟩, lh⟩ := l
 unfold agE celE at *
 simp only at *
 have HC : Hid (Calls Tryz.prog 60 _ _ _) := hC0
 have HD : Hid (Dw _ _ _ _ _ _) := hD
 have HOO : Hid (∀ (W : World) (v : Value), _) := HO
 clear hC0 hD HO
 go_enter Tryz.func29, Tryz.ntmps29
 go_wp2_with (first
  | (go_at_call 60; refine HC.out.mono ?_; rintro r w1 ⟨rfl, hb1⟩; have h1 := HD.out.go hb1; obtain ⟨gG, cG, gL, cL, aS, cS, c0, c3, j0, j1, j3, j4, j5, j6, j7, K1, K2, K3, K4, k5⟩ := h1.opn HnG.out HnL.out Hl.out Hg.out; simp only at c0 c3 j3 j4 j5 j6 j7; have H1 : Hid (Dw _ _ _ _ _ _) := h1; clear hb1 h1)
  | (go_at_call 51; refine (HL.out _ H1.out.book).mono ?_; rintro r w2 ⟨rfl, hw9⟩; have hw8 := hw9.symm; subst hw8)
  | (go_at_call 61; refine (HF.out _ H1.out.book).mono ?_; rintro r w2 ⟨rfl, hw9⟩; have hw8 := hw9.symm; subst hw8; obtain ⟨W2, W3, q2, q3, d1, d2, d4, ⟨mq0, mq1, mq2, mqf⟩, ⟨ms0, ms1, ms2, ms3, msf⟩, ⟨mt0, mtf⟩, hE3, H3⟩ := H1.out.box2 K1.out K2.out K3.out K4.out k5 Hl.out t1 t2 t3 t4; have m0 := hE3.c0; have m13 := hE3.c13; simp only at d4 m0 m13; clear hE3)
  | (go_at_call 65; refine (HOO.out _ _ H3.out.S).mono ?_; rintro r w7 ⟨rfl, hb7⟩; have h7 := H3.out.go hb7; obtain ⟨⟨rq0, rq1, rq2, rqf⟩, ⟨rs0, rs1, rs2, rs3, rsf⟩, rt0, rtf⟩ := h7.cells; simp only at rs0 rs1 rs2 rs3; obtain ⟨F1, F2, F3, F4, F5, F6, e1, e2, e3, e4, e5, e6, ⟨f10, f11, f12⟩, ⟨f20, ⟨f21, f22, f23, f24⟩, f25, f26⟩, ⟨f30, f31⟩, ⟨f40, f41⟩, ⟨f50, f51⟩, ⟨f60, f61, f62, f63, f64⟩, hfin, hfb⟩ := h7.fin HB0.out (H3.out.S.below hb7) Hl.out Hg.out (lh + an); simp only at e3 e4 e5 e6 f11 f21 f22 f23 f24 f25 f30 f40 f50 f61 f62 f63 f64; have HFin : Hid (RefB _ _ _ _) := hfin; have HFB : Hid (Turn _ _ _) := hfb; clear hfin hfb; have H7 : Hid (Pw _ _ _ _ _ _ _ _ _ _ _ _ _ _ _) := h7; clear h7 hb7))
 have R3 : Hid (encLn.Row W3 0 48 (.slice aS b.2.2.length cS) b.2.2) := H3.out.S
 go_region_held3 (fun w' => w'.cell? ⟨q, 0, none⟩ = some (.slice (some ⟨gG, 0, none⟩) b.1.length cG) ∧ w'.cell? ⟨w1.heap.size, 0, none⟩ = some (.int .i64 (t1)) ∧ w'.cell? ⟨w1.heap.size, 1, none⟩ = some (.int .i64 (t2)) ∧ w'.cell? ⟨w1.heap.size, 2, none⟩ = some (.int .i64 (t3)) ∧ w'.cell? ⟨w1.heap.size, 3, none⟩ = some (.int .i64 (t4))) (go_keep) (fail)
 all_goals
  go_wp2
  go_ret
  exact ⟨rfl, HFin.out, HFB.out⟩
theorem dp_free_neg (w : World) (B q : Nat) (b : Bk) (e : En) (k i : Nat) (l : Lh) (g : Gs) (P : Dp w B q b e k i l g kFree) (hO : l.2 - e.2.2.2.2.2 < 0) :
  Calls Tryz.prog 29 #[.pointer (some ⟨q, 0, none⟩), agE e] w fun r w' => r = .returned (.int .i64 9) ∧ RefB w' B q b ∧ Below w.heap.size w w' := by
 have hD := Dw.new P.h e
 have hC0 := terr_any e (w.alloc (celE e)) P.hz
 rw [P.he] at hC0
 obtain ⟨HL, HF, y1, y2, HnG, HnL, hkn, hin, u1, u2, u3, u4, u6, u7, u8, u9, v1, v3, HB0, hz63, hz64⟩ := P.all (by decide) (by decide)
 have hk := P.hk
 have hn1 := P.hn1
 have hn2 := P.hn2
 have x0 : (e.1.toList == kIn.data.toList) = false := other_word (by rw [hk]; decide)
 have x1 : (e.1.toList == kMore.data.toList) = false := other_word (by rw [hk]; decide)
 have x2 : (e.1.toList == kOut.data.toList) = false := other_word (by rw [hk]; decide)
 have x3 : (e.1.toList == kLess.data.toList) = false := other_word (by rw [hk]; decide)
 have x4 : (e.1.toList == kMove.data.toList) = false := other_word (by rw [hk]; decide)
 have x5 : (e.1.toList == kHold.data.toList) = false := other_word (by rw [hk]; decide)
 have x6 : (e.1.toList == kFree.data.toList) = true := same_wordR hk
 unfold mostS at *
 have Hl : Hid (b.2.1[k]? = some l) := P.hl
 have Hg : Hid (b.1[i]? = some g) := P.hg
 clear P hk
 obtain ⟨ak, ⟨agc, agp⟩, ⟨ali, alc, alu, alk⟩, ⟨afz, afr, afb⟩, ⟨atz, atr, atb⟩, an⟩ := e
 obtain ⟨⟨ggc, ggp⟩, t1, t2, t3, t4⟩ := g
 obtain ⟨⟨lli, llc, llu, llk⟩, lh⟩ := l
 unfold agE celE at *
 simp only at *
 have HC : Hid (Calls Tryz.prog 60 _ _ _) := hC0
 have HD : Hid (Dw _ _ _ _ _ _) := hD
 clear hC0 hD
 go_enter Tryz.func29, Tryz.ntmps29
 go_wp2_with (first
  | (go_at_call 60; refine HC.out.mono ?_; rintro r w1 ⟨rfl, hb1⟩; have h1 := HD.out.go hb1; obtain ⟨gG, cG, gL, cL, aS, cS, c0, c3, j0, j1, j3, j4, j5, j6, j7, K1, K2, K3, K4, k5⟩ := h1.opn HnG.out HnL.out Hl.out Hg.out; simp only at c0 c3 j3 j4 j5 j6 j7; have H1 : Hid (Dw _ _ _ _ _ _) := h1; clear hb1 h1)
  | (go_at_call 51; refine (HL.out _ H1.out.book).mono ?_; rintro r w2 ⟨rfl, hw9⟩; have hw8 := hw9.symm; subst hw8)
  | (go_at_call 61; refine (HF.out _ H1.out.book).mono ?_; rintro r w2 ⟨rfl, hw9⟩; have hw8 := hw9.symm; subst hw8; obtain ⟨W2, W3, q2, q3, d1, d2, d4, ⟨mq0, mq1, mq2, mqf⟩, ⟨ms0, ms1, ms2, ms3, msf⟩, ⟨mt0, mtf⟩, hE3, H3⟩ := H1.out.box2 K1.out K2.out K3.out K4.out k5 Hl.out t1 t2 t3 t4; have m0 := hE3.c0; have m13 := hE3.c13; simp only at d4 m0 m13; clear hE3))
 have R3 : Hid (encLn.Row W3 0 48 (.slice aS b.2.2.length cS) b.2.2) := H3.out.S
 (try go_wp2)
 go_ret
 exact ⟨rfl, H3.out.book, H3.out.below⟩
theorem dp_free_ok (w : World) (B q : Nat) (b : Bk) (e : En) (k i : Nat) (l : Lh) (g : Gs) (O : Int) (P : Dp w B q b e k i l g kFree) (HO : ∀ (W : World) (v : Value), encLn.Row W 0 48 v b.2.2 → Calls Tryz.prog 65 #[.agg #[v], .string e.2.2.1.1] W fun r w' => r = .returned (.int .i64 O) ∧ Below W.heap.size W w') (hO : l.2 - e.2.2.2.2.2 ≤ O) (hP : 0 ≤ l.2 - e.2.2.2.2.2) :
  Calls Tryz.prog 29 #[.pointer (some ⟨q, 0, none⟩), agE e] w fun r w' => r = .returned (.int .i64 0) ∧ RefB w' B q (b.1.set i (g.1, g.2.1, g.2.2.1, g.2.2.2.1, g.2.2.2.2), b.2.1.set k (l.1, l.2 - e.2.2.2.2.2), b.2.2) ∧ Turn B w w' := by
 have hD := Dw.new P.h e
 have hC0 := terr_any e (w.alloc (celE e)) P.hz
 rw [P.he] at hC0
 obtain ⟨HL, HF, y1, y2, HnG, HnL, hkn, hin, u1, u2, u3, u4, u6, u7, u8, u9, v1, v3, HB0, hz63, hz64⟩ := P.all (by decide) (by decide)
 have hk := P.hk
 have hn1 := P.hn1
 have hn2 := P.hn2
 have x0 : (e.1.toList == kIn.data.toList) = false := other_word (by rw [hk]; decide)
 have x1 : (e.1.toList == kMore.data.toList) = false := other_word (by rw [hk]; decide)
 have x2 : (e.1.toList == kOut.data.toList) = false := other_word (by rw [hk]; decide)
 have x3 : (e.1.toList == kLess.data.toList) = false := other_word (by rw [hk]; decide)
 have x4 : (e.1.toList == kMove.data.toList) = false := other_word (by rw [hk]; decide)
 have x5 : (e.1.toList == kHold.data.toList) = false := other_word (by rw [hk]; decide)
 have x6 : (e.1.toList == kFree.data.toList) = true := same_wordR hk
 unfold mostS at *
 have Hl : Hid (b.2.1[k]? = some l) := P.hl
 have Hg : Hid (b.1[i]? = some g) := P.hg
 clear P hk
 obtain ⟨ak, ⟨agc, agp⟩, ⟨ali, alc, alu, alk⟩, ⟨afz, afr, afb⟩, ⟨atz, atr, atb⟩, an⟩ := e
 obtain ⟨⟨ggc, ggp⟩, t1, t2, t3, t4⟩ := g
 obtain ⟨⟨lli, llc, llu, llk⟩, lh⟩ := l
 unfold agE celE at *
 simp only at *
 have HC : Hid (Calls Tryz.prog 60 _ _ _) := hC0
 have HD : Hid (Dw _ _ _ _ _ _) := hD
 have HOO : Hid (∀ (W : World) (v : Value), _) := HO
 clear hC0 hD HO
 go_enter Tryz.func29, Tryz.ntmps29
 go_wp2_with (first
  | (go_at_call 60; refine HC.out.mono ?_; rintro r w1 ⟨rfl, hb1⟩; have h1 := HD.out.go hb1; obtain ⟨gG, cG, gL, cL, aS, cS, c0, c3, j0, j1, j3, j4, j5, j6, j7, K1, K2, K3, K4, k5⟩ := h1.opn HnG.out HnL.out Hl.out Hg.out; simp only at c0 c3 j3 j4 j5 j6 j7; have H1 : Hid (Dw _ _ _ _ _ _) := h1; clear hb1 h1)
  | (go_at_call 51; refine (HL.out _ H1.out.book).mono ?_; rintro r w2 ⟨rfl, hw9⟩; have hw8 := hw9.symm; subst hw8)
  | (go_at_call 61; refine (HF.out _ H1.out.book).mono ?_; rintro r w2 ⟨rfl, hw9⟩; have hw8 := hw9.symm; subst hw8; obtain ⟨W2, W3, q2, q3, d1, d2, d4, ⟨mq0, mq1, mq2, mqf⟩, ⟨ms0, ms1, ms2, ms3, msf⟩, ⟨mt0, mtf⟩, hE3, H3⟩ := H1.out.box2 K1.out K2.out K3.out K4.out k5 Hl.out t1 t2 t3 t4; have m0 := hE3.c0; have m13 := hE3.c13; simp only at d4 m0 m13; clear hE3)
  | (go_at_call 65; refine (HOO.out _ _ H3.out.S).mono ?_; rintro r w7 ⟨rfl, hb7⟩; have h7 := H3.out.go hb7; obtain ⟨⟨rq0, rq1, rq2, rqf⟩, ⟨rs0, rs1, rs2, rs3, rsf⟩, rt0, rtf⟩ := h7.cells; simp only at rs0 rs1 rs2 rs3; obtain ⟨F1, F2, F3, F4, F5, F6, e1, e2, e3, e4, e5, e6, ⟨f10, f11, f12⟩, ⟨f20, ⟨f21, f22, f23, f24⟩, f25, f26⟩, ⟨f30, f31⟩, ⟨f40, f41⟩, ⟨f50, f51⟩, ⟨f60, f61, f62, f63, f64⟩, hfin, hfb⟩ := h7.fin HB0.out (H3.out.S.below hb7) Hl.out Hg.out (lh - an); simp only at e3 e4 e5 e6 f11 f21 f22 f23 f24 f25 f30 f40 f50 f61 f62 f63 f64; have HFin : Hid (RefB _ _ _ _) := hfin; have HFB : Hid (Turn _ _ _) := hfb; clear hfin hfb; have H7 : Hid (Pw _ _ _ _ _ _ _ _ _ _ _ _ _ _ _) := h7; clear h7 hb7))
 have R3 : Hid (encLn.Row W3 0 48 (.slice aS b.2.2.length cS) b.2.2) := H3.out.S
 go_region_held3 (fun w' => w'.cell? ⟨q, 0, none⟩ = some (.slice (some ⟨gG, 0, none⟩) b.1.length cG) ∧ w'.cell? ⟨w1.heap.size, 0, none⟩ = some (.int .i64 (t1)) ∧ w'.cell? ⟨w1.heap.size, 1, none⟩ = some (.int .i64 (t2)) ∧ w'.cell? ⟨w1.heap.size, 2, none⟩ = some (.int .i64 (t3)) ∧ w'.cell? ⟨w1.heap.size, 3, none⟩ = some (.int .i64 (t4))) (go_keep) (fail)
 all_goals
  go_wp2
  go_ret
  exact ⟨rfl, HFin.out, HFB.out⟩
end Go.Proofs.YtppodkkefegbkaaGreatDoor
