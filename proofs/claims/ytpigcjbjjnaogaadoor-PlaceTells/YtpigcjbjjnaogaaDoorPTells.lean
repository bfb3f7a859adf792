/-
  The law PlaceTells answers true, over every world that holds the twelve sentinels, errors.errorType and strconv's table of powers as the program lays them.
-/
import Derived.Test.YtpigcjbjjnaogaaDoorPEq
import Derived.Test.YtpigcjbjjnaogaaDoorPWalked
namespace Go.Proofs.YtpigcjbjjnaogaaDoor
open Go.RowKit Go.Lib Go.Sort

set_option maxHeartbeats 1000000 in
theorem tells_long (x y : Pl) (z : ByteArray) (w : World) (s : Nat → Addr) (hs : Two w s) (hp : Pow w) (wx : x.1.size ≤ maxLen) (wy : y.1.size ≤ maxLen) (wz : z.size ≤ maxLen) (h : 30 < x.1.size ∨ 30 < y.1.size ∨ 40 < z.size) :
    Calls Tryd.prog 6 #[agP x, agP y, .string z] w fun e w' => e = .returned (.bool true) ∧ Below w.heap.size w w' := by
  have hB := boxTwo_below w x y
  have k1 := boxTwo_first w x y
  have k2 := boxTwo_second w x y
  have ht := walked_any (boxTwo w x y) s (hs.below hB) (hp.below hB)
  obtain ⟨a, r, b⟩ := x
  obtain ⟨a', r', b'⟩ := y
  unfold agP boxTwo at *
  simp only at *
  have HT : Hid (Calls Tryd.prog 22 _ _ _) := ht
  have HB : Hid (Below _ _ _) := hB
  clear ht hB hs hp
  unfold maxLen at wx wy wz
  have hc : 30 < a.size ∨ (a.size ≤ 30 ∧ 30 < a'.size) ∨ (a.size ≤ 30 ∧ a'.size ≤ 30 ∧ 40 < z.size) := by omega
  clear h
  rcases hc with hc | ⟨q1, hc⟩ | ⟨q1, q2, hc⟩
  all_goals
    go_enter Tryd.func6, Tryd.ntmps6
    go_wp2_with (go_at_call 22; refine HT.out.mono ?_; rintro e w1 ⟨rfl, hb⟩; obtain ⟨c0, c1, c2⟩ := k1.below hb; obtain ⟨d0, d1, d2⟩ := k2.below hb)
    go_ret
    exact ⟨rfl, HB.out.trans (hb.mono HB.out.size)⟩

set_option maxRecDepth 100000 in
set_option maxHeartbeats 4000000 in
theorem tells_short (x y : Pl) (z : ByteArray) (w : World) (s : Nat → Addr) (hs : Sent w s) (hh : Handle w) (hp : Pow w) (h1 : x.1.size ≤ 30) (h2 : y.1.size ≤ 30) (h3 : z.size ≤ 40) :
    Calls Tryd.prog 6 #[agP x, agP y, .string z] w fun e w' => e = .returned (.bool true) ∧ Below w.heap.size w w' := by
  have hB := boxTwo_below w x y
  have k1 := boxTwo_first w x y
  have k2 := boxTwo_second w x y
  have ht := walked_any (boxTwo w x y) s (hs.two.below hB) (hp.below hB)
  have z1 : x.1.size ≤ maxLen := by unfold maxLen; omega
  have z2 : y.1.size ≤ maxLen := by unfold maxLen; omega
  have z3 : z.size ≤ maxLen := by unfold maxLen; omega
  have hR := fun w1 (hb : Below w.heap.size w w1) => pread_any z w1 s z3 (hs.three.below hb)
  have hRP := fun w1 => readPlace_any z w1 (by omega)
  have hCR := fun w1 (hb : Below w.heap.size w w1) => codedP_any s (readP z.data.toList).2 (readP_code _) ((readP z.data.toList).2 : Int) w1 (hs.below hb) (hh.below hb)
  have hCh := fun w1 (hb : Below w.heap.size w w1) => pcheck_any x w1 s z1 (hs.two.below hb)
  have hPE := fun w1 => placeError_any x w1 z1
  have hCC := fun w1 (hb : Below w.heap.size w w1) => codedP_any s (placeErr x) (placeErr_le _) (placeErr x : Int) w1 (hs.below hb) (hh.below hb)
  have hTx := fun w1 (hb : Below w.heap.size w w1) => ptext_any x w1 s z1 (hs.two.below hb) (hp.below hb)
  have hPT := fun w1 => placeText_any x w1 z1
  have hIA := fun w1 => isAhead_any x y w1
  have hAh := fun w1 => ahead_any x y w1
  have hSt := fun w1 (hb : Below w.heap.size w w1) => steps_any x y w1 s z1 z2 (hs.two.below hb)
  have hSO := fun w1 => stepsOf_any x y w1 z1 z2
  simp only [decide_true] at hCR hCC
  generalize (readP z.data.toList).1 = P at *
  generalize ((readP z.data.toList).2 : Int) = rc at *
  generalize errP s (readP z.data.toList).2 = er at *
  generalize (placeErr x : Int) = pc at *
  generalize errP s (placeErr x) = ep at *
  generalize ptext x = tx at *
  generalize aheadP x y = ah at *
  generalize stepsP x y = st at *
  have hE := fun w => eqP_run P.1 P.1 P.2.1 P.2.2 P.2.1 P.2.2 w
  simp only [decide_true] at hE
  have hG := Tryd.guardP
  clear hs hh hp z1 z2 z3
  obtain ⟨a, r, b⟩ := x
  obtain ⟨a', r', b'⟩ := y
  obtain ⟨pa, pr, pb⟩ := P
  unfold agP boxTwo at *
  simp only at *
  have HT : Hid (Calls Tryd.prog 22 _ _ _) := ht
  have HB : Hid (Below _ _ _) := hB
  clear ht hB
  go_enter Tryd.func6, Tryd.ntmps6
  go_wp2_with (first
    | (go_at_call 22; refine HT.out.mono ?_; rintro e w1 ⟨rfl, hb⟩; have j1 := k1.below hb; have j2 := k2.below hb; have hb1 : Below w.heap.size w w1 := HB.out.trans (hb.mono HB.out.size); obtain ⟨c0, c1, c2⟩ := k1.below hb; obtain ⟨d0, d1, d2⟩ := k2.below hb)
    | (go_at_call 23; refine (hR _ hb1).mono ?_; rintro e w2 ⟨rfl, hb'⟩; have hb2 : Below w.heap.size w w2 := hb1.trans (hb'.mono hb1.size))
    | (go_at_call 24; refine (hRP _).mono ?_; rintro e w3 ⟨rfl, hb''⟩))
  have al : ∀ (u : World) o, Below u.heap.size u (u.alloc o) := fun u o => (Below.refl _ u).alloc (Nat.le_refl _) o
  have q1 : BoxAt w.heap.size (a, r, b) (w3.alloc (.cells #[.string pa, .int .i64 pr, .int .i64 pb] 47)) := (((j1.below hb').below (al _ _)).below hb'').below (al _ _)
  have q2 : BoxAt (w.heap.size + 1) (a', r', b') (w3.alloc (.cells #[.string pa, .int .i64 pr, .int .i64 pb] 47)) := (((j2.below hb').below (al _ _)).below hb'').below (al _ _)
  have q3 : BoxAt w2.heap.size (pa, pr, pb) (w3.alloc (.cells #[.string pa, .int .i64 pr, .int .i64 pb] 47)) := ((BoxAt.new w2 (pa, pr, pb) 47 _ rfl).below hb'').below (al _ _)
  have q4 : BoxAt w3.heap.size (pa, pr, pb) (w3.alloc (.cells #[.string pa, .int .i64 pr, .int .i64 pb] 47)) := BoxAt.new w3 (pa, pr, pb) 47 _ rfl
  have hb3 : Below w.heap.size w w3 := (hb2.alloc hb2.size _).trans (hb''.mono (by simp; exact Nat.le_succ_of_le hb2.size))
  have hbW : Below w.heap.size w (w3.alloc (.cells #[.string pa, .int .i64 pr, .int .i64 pb] 47)) := hb3.alloc hb3.size _
  generalize w3.alloc (.cells #[.string pa, .int .i64 pr, .int .i64 pb] 47) = W at q1 q2 q3 q4 hbW ⊢
  generalize w2.heap.size = m2 at q3 ⊢
  generalize w3.heap.size = m3 at q4 ⊢
  clear hb'' hb' hb2 hb1 hb3 hb j1 j2 k1 k2 c0 c1 c2 d0 d1 d2 HT al hR hRP
  have hbR : ∀ d os, Below w.heap.size w (grow (redrawn W d) os) := fun d os => hbW.trans ((below_regrown W d os).mono hbW.size)
  have g0 := cell_regrown q1.c0
  have g1 := cell_regrown q1.c1
  have g2 := cell_regrown q1.c2
  have g3 := cell_regrown q3.c0
  have g4 := cell_regrown q3.c1
  have g5 := cell_regrown q3.c2
  have g6 := cell_regrown q4.c0
  have g7 := cell_regrown q4.c1
  have g8 := cell_regrown q4.c2
  have cCh := fun d os => Calls.regrown_of (w := W) (hCh _ (hbR d os))
  have cPE := fun d os => Calls.regrown_of (w := W) (d := d) (os := os) (hPE _)
  have cCC := fun d os => Calls.regrown_of (w := W) (hCC _ (hbR d os))
  have cTx := fun d os => Calls.regrown_of (w := W) (hTx _ (hbR d os))
  have cPT := fun d os => Calls.regrown_of (w := W) (d := d) (os := os) (hPT _)
  have cCR := fun d os => Calls.regrown_of (w := W) (hCR _ (hbR d os))
  clear hCh hPE hCC hTx hPT hCR
  simp only at g0 g1 g2 g3 g4 g5 g6 g7 g8
  refine wp_region_quiet_below (by kernel_rfl) (by kernel_rfl) ?_
  repeat (quiet_step (first | (go_at_call 25; exact cCh _ _) | (go_at_call 26; exact cPE _ _) | (go_at_call_of 11 ep; exact cCC _ _) | (go_at_call 27; exact cTx _ _) | (go_at_call 28; exact cPT _ _) | (go_at_call_of 11 er; exact cCR _ _)))
  refine wpQuiet_nil ?_
  intro _ hw'
  obtain ⟨⟨dq, osq⟩, hw''⟩ := hw'
  subst hw''
  have hbE := hbR dq osq
  have q1' := q1.below (below_regrown W dq osq)
  have q2' := q2.below (below_regrown W dq osq)
  generalize grow (redrawn W dq) osq = V at hbE q1' q2' ⊢
  clear cCh cPE cCC cTx cPT cCR g0 g1 g2 g3 g4 g5 g6 g7 g8 hbR hE hG q3 q4 q1 q2 hbW
  obtain ⟨c0, c1, c2⟩ := q1'
  obtain ⟨d0, d1, d2⟩ := q2'
  have e1 : BoxAt w.heap.size (a, r, b) V := ⟨c0, c1, c2⟩
  have e2 : BoxAt (w.heap.size + 1) (a', r', b') V := ⟨d0, d1, d2⟩
  simp only at c0 c1 c2 d0 d1 d2
  go_wp2_with (go_at_call 29; refine (hIA _).mono ?_; rintro e w4 ⟨rfl, hb4⟩)
  have p1 := e1.below hb4
  have p2 := e2.below hb4
  have hbU : Below w.heap.size w w4 := hbE.trans (hb4.mono hbE.size)
  clear e1 e2 c0 c1 c2 d0 d1 d2 hb4 hIA
  have hbR : ∀ d os, Below w.heap.size w (grow (redrawn w4 d) os) := fun d os => hbU.trans ((below_regrown w4 d os).mono hbU.size)
  have g0 := cell_regrown p1.c0
  have g1 := cell_regrown p1.c1
  have g2 := cell_regrown p1.c2
  have g3 := cell_regrown p2.c0
  have g4 := cell_regrown p2.c1
  have g5 := cell_regrown p2.c2
  have cAh := fun d os => Calls.regrown_of (w := w4) (d := d) (os := os) (hAh _)
  have cSt := fun d os => Calls.regrown_of (w := w4) (hSt _ (hbR d os))
  have cSO := fun d os => Calls.regrown_of (w := w4) (d := d) (os := os) (hSO _)
  clear hAh hSt hSO p1 p2
  simp only at g0 g1 g2 g3 g4 g5
  refine wp_region_quiet_below (by kernel_rfl) (by kernel_rfl) ?_
  repeat (quiet_step (first | (go_at_call 30; exact cAh _ _) | (go_at_call 31; exact cSt _ _) | (go_at_call 32; exact cSO _ _)))
  refine wpQuiet_nil ?_
  intro _ hw'
  obtain ⟨⟨dq2, osq2⟩, hw''⟩ := hw'
  subst hw''
  have hbZ := hbR dq2 osq2
  go_wp2
  go_ret
  exact ⟨by simp, hbZ⟩
end Go.Proofs.YtpigcjbjjnaogaaDoor
