/-
  The law LotTells answers true, over every world that holds the twelve sentinels, errors.errorType and strconv's table of powers as the program lays them.
-/
import Derived.Test.YtdlacmfejlmpdabDoorLRefAny
import Derived.Test.YtdlacmfejlmpdabDoorLSorts
namespace Go.Proofs.YtdlacmfejlmpdabDoor
open Go.RowKit Go.Lib Go.Sort

set_option maxHeartbeats 2000000 in
theorem ltells_long (x y : Lo) (z : ByteArray) (day : Int) (w : World) (s : Nat → Addr) (hs : Two w s) (hp : Pow w) (wx : x.1.size ≤ maxLen) (wx2 : x.2.1.size ≤ maxLen) (wy : y.1.size ≤ maxLen) (wz : z.size ≤ maxLen) (h : 30 < x.1.size ∨ 30 < x.2.1.size ∨ 30 < y.1.size ∨ 60 < z.size) :
    Calls Tryd.prog 3 #[agL x, agL y, .string z, .int .i64 day] w fun e w' => e = .returned (.bool true) ∧ Below w.heap.size w w' := by
  have hB := boxL2_below w x y
  have k1 := boxL2_first w x y
  have k2 := boxL2_second w x y
  have ht := lotted_any (boxL2 w x y) s (hs.below hB) (hp.below hB)
  obtain ⟨a, c, u, k⟩ := x
  obtain ⟨a', c', u', k'⟩ := y
  unfold agL boxL2 boxL at *
  simp only at *
  have HT : Hid (Calls Tryd.prog 5 _ _ _) := ht
  have HB : Hid (Below _ _ _) := hB
  clear ht hB hs hp
  unfold maxLen at wx wx2 wy wz
  have hc : 30 < a.size ∨ (a.size ≤ 30 ∧ 30 < c.size) ∨ (a.size ≤ 30 ∧ c.size ≤ 30 ∧ 30 < a'.size) ∨ (a.size ≤ 30 ∧ c.size ≤ 30 ∧ a'.size ≤ 30 ∧ 60 < z.size) := by omega
  clear h
  rcases hc with hc | ⟨q1, hc⟩ | ⟨q1, q2, hc⟩ | ⟨q1, q2, q3, hc⟩
  all_goals
    go_enter Tryd.func3, Tryd.ntmps3
    go_wp2_with (go_at_call 5; refine HT.out.mono ?_; rintro e w1 ⟨rfl, hb⟩; obtain ⟨c0, c1, c2, c3⟩ := k1.below hb; obtain ⟨d0, d1, d2, d3⟩ := k2.below hb)
    go_ret
    exact ⟨rfl, HB.out.trans (hb.mono HB.out.size)⟩

set_option maxRecDepth 100000 in
set_option maxHeartbeats 4000000 in
theorem ltells_short (x y : Lo) (z : ByteArray) (day : Int) (w : World) (s : Nat → Addr) (hs : Sent w s) (hh : Handle w) (hp : Pow w) (h1 : x.1.size ≤ 30) (h1' : x.2.1.size ≤ 30) (h2 : y.1.size ≤ 30) (h3 : z.size ≤ 60) :
    Calls Tryd.prog 3 #[agL x, agL y, .string z, .int .i64 day] w fun e w' => e = .returned (.bool true) ∧ Below w.heap.size w w' := by
  have hB := boxL2_below w x y
  have k1 := boxL2_first w x y
  have k2 := boxL2_second w x y
  have ht := lotted_any (boxL2 w x y) s (hs.two.below hB) (hp.below hB)
  have z1 : x.1.size ≤ maxLen := by unfold maxLen; omega
  have z2 : x.2.1.size ≤ maxLen := by unfold maxLen; omega
  have hR := fun w1 (hb : Below w.heap.size w w1) => lread_any z w1 s (by omega) (hs.three.below hb)
  have hCut := fun w1 => refCut z 32 w1 (by omega)
  have hRL := fun B g cap w1 hown => readLot_any z.data.toList B g cap w1 (by rw [size_len]; omega) hown
  have hCR := fun w1 (hb : Below w.heap.size w w1) => codedP_any s (readL z.data.toList).2 (readL_code _) ((readL z.data.toList).2 : Int) w1 (hs.below hb) (hh.below hb)
  have hCh := fun w1 (hb : Below w.heap.size w w1) => lcheck_any x w1 s z1 z2 (hs.two.below hb)
  have hPE := fun w1 => lotError_any x w1 z1 z2
  have hCC := fun w1 (hb : Below w.heap.size w w1) => codedP_any s (lotErr x) (lotErr_le _) (lotErr x : Int) w1 (hs.below hb) (hh.below hb)
  have hTx := fun w1 (hb : Below w.heap.size w w1) => ltext_any x w1 s z1 z2 (hs.two.below hb) (hp.below hb)
  have hPT := fun w1 => lotText_any x w1 z1 z2
  have hIS := fun w1 => isSooner_any x y w1
  have hSo := fun w1 => sooner_any x y w1
  have hGo := fun w1 => good_any x day w1
  simp only [decide_true] at hCR hCC
  generalize (readL z.data.toList).1 = P at *
  generalize ((readL z.data.toList).2 : Int) = rc at *
  generalize errP s (readL z.data.toList).2 = er at *
  generalize (lotErr x : Int) = pc at *
  generalize errP s (lotErr x) = ep at *
  generalize ltext x = tx at *
  generalize soonL x y = so at *
  generalize splitL 32 z.data.toList = pcs at *
  have hE := fun w => eqL_of (x := P) rfl w
  have hG := Tryd.guardL
  clear hs hh hp z1 z2
  obtain ⟨a, c, u, k⟩ := x
  obtain ⟨a', c', u', k'⟩ := y
  obtain ⟨pa, pq, pu, pk⟩ := P
  unfold agL boxL2 boxL at *
  simp only at *
  have HT : Hid (Calls Tryd.prog 5 _ _ _) := ht
  have HB : Hid (Below _ _ _) := hB
  clear ht hB
  go_enter Tryd.func3, Tryd.ntmps3
  go_wp2_with (first
    | (go_at_call 5; refine HT.out.mono ?_; rintro e w1 ⟨rfl, hb⟩; have j1 := k1.below hb; have j2 := k2.below hb; have hb1 : Below w.heap.size w w1 := HB.out.trans (hb.mono HB.out.size); obtain ⟨c0, c1, c2, c3⟩ := k1.below hb; obtain ⟨d0, d1, d2, d3⟩ := k2.below hb)
    | (go_at_call 6; refine (hR _ hb1).mono ?_; rintro e w2 ⟨rfl, hb'⟩; have hb2 : Below w.heap.size w w2 := hb1.trans (hb'.mono hb1.size))
    | (go_at_call 8; refine (hCut _).mono ?_; rintro e w2c ⟨gc, capc, rfl, hownc, hbc⟩)
    | (go_at_call 7; refine (hRL _ _ _ _ hownc).mono ?_; rintro e w3 ⟨rfl, hb''⟩))
  have al : ∀ (u : World) o, Below u.heap.size u (u.alloc o) := fun u o => (Below.refl _ u).alloc (Nat.le_refl _) o
  have q1 : BoxL w.heap.size (a, c, u, k) (w3.alloc (.cells #[.string pa, .string pq, .int .i64 pu, .int .i64 pk] 23)) := ((((j1.below hb').below (al _ _)).below hbc).below hb'').below (al _ _)
  have q2 : BoxL (w.heap.size + 1) (a', c', u', k') (w3.alloc (.cells #[.string pa, .string pq, .int .i64 pu, .int .i64 pk] 23)) := ((((j2.below hb').below (al _ _)).below hbc).below hb'').below (al _ _)
  have q3 : BoxL w2.heap.size (pa, pq, pu, pk) (w3.alloc (.cells #[.string pa, .string pq, .int .i64 pu, .int .i64 pk] 23)) := (((BoxL.new w2 (pa, pq, pu, pk) _ rfl).below hbc).below hb'').below (al _ _)
  have q4 : BoxL w3.heap.size (pa, pq, pu, pk) (w3.alloc (.cells #[.string pa, .string pq, .int .i64 pu, .int .i64 pk] 23)) := BoxL.new w3 (pa, pq, pu, pk) _ rfl
  have hb2a : Below w.heap.size w (w2.alloc (.cells #[.string pa, .string pq, .int .i64 pu, .int .i64 pk] 23)) := hb2.alloc hb2.size _
  have hb2c : Below w.heap.size w w2c := hb2a.trans (hbc.mono hb2a.size)
  have hb3 : Below w.heap.size w w3 := hb2c.trans (hb''.mono hb2c.size)
  have hbW : Below w.heap.size w (w3.alloc (.cells #[.string pa, .string pq, .int .i64 pu, .int .i64 pk] 23)) := hb3.alloc hb3.size _
  generalize w3.alloc (.cells #[.string pa, .string pq, .int .i64 pu, .int .i64 pk] 23) = W at q1 q2 q3 q4 hbW ⊢
  generalize w2.heap.size = m2 at q3 ⊢
  generalize w3.heap.size = m3 at q4 ⊢
  clear hb'' hb' hb2 hb1 hb3 hb hb2a hb2c hbc hownc j1 j2 k1 k2 c0 c1 c2 c3 d0 d1 d2 d3 HT al hR hRL hCut
  have hbR : ∀ d os, Below w.heap.size w (grow (redrawn W d) os) := fun d os => hbW.trans ((below_regrown W d os).mono hbW.size)
  have g0 := cell_regrown q1.c0
  have g1 := cell_regrown q1.c1
  have g2 := cell_regrown q1.c2
  have g3 := cell_regrown q1.c3
  have g4 := cell_regrown q3.c0
  have g5 := cell_regrown q3.c1
  have g6 := cell_regrown q3.c2
  have g7 := cell_regrown q3.c3
  have g8 := cell_regrown q4.c0
  have g9 := cell_regrown q4.c1
  have ga := cell_regrown q4.c2
  have gb := cell_regrown q4.c3
  have cCh := fun d os => Calls.regrown_of (w := W) (hCh _ (hbR d os))
  have cPE := fun d os => Calls.regrown_of (w := W) (d := d) (os := os) (hPE _)
  have cCC := fun d os => Calls.regrown_of (w := W) (hCC _ (hbR d os))
  have cTx := fun d os => Calls.regrown_of (w := W) (hTx _ (hbR d os))
  have cPT := fun d os => Calls.regrown_of (w := W) (d := d) (os := os) (hPT _)
  have cCR := fun d os => Calls.regrown_of (w := W) (hCR _ (hbR d os))
  clear hCh hPE hCC hTx hPT hCR
  simp only at g0 g1 g2 g3 g4 g5 g6 g7 g8 g9 ga gb
  refine wp_region_quiet_below (by kernel_rfl) (by kernel_rfl) ?_
  repeat (quiet_step (first | (go_at_call 10; exact cCh _ _) | (go_at_call 11; exact cPE _ _) | (go_at_call_of 9 ep; exact cCC _ _) | (go_at_call 12; exact cTx _ _) | (go_at_call 13; exact cPT _ _) | (go_at_call_of 9 er; exact cCR _ _)))
  refine wpQuiet_nil ?_
  intro _ hw'
  obtain ⟨⟨dq, osq⟩, hw''⟩ := hw'
  subst hw''
  have hbE := hbR dq osq
  have q1' := q1.below (below_regrown W dq osq)
  have q2' := q2.below (below_regrown W dq osq)
  generalize grow (redrawn W dq) osq = V at hbE q1' q2' ⊢
  clear cCh cPE cCC cTx cPT cCR g0 g1 g2 g3 g4 g5 g6 g7 g8 g9 ga gb hbR hE hG q3 q4 q1 q2 hbW
  obtain ⟨c0, c1, c2, c3⟩ := q1'
  obtain ⟨d0, d1, d2, d3⟩ := q2'
  have e1 : BoxL w.heap.size (a, c, u, k) V := ⟨c0, c1, c2, c3⟩
  have e2 : BoxL (w.heap.size + 1) (a', c', u', k') V := ⟨d0, d1, d2, d3⟩
  simp only at c0 c1 c2 c3 d0 d1 d2 d3
  go_wp2_with (go_at_call 14; refine (hIS _).mono ?_; rintro e w4 ⟨rfl, hb4⟩)
  have p1 := e1.below hb4
  have p2 := e2.below hb4
  have hbU : Below w.heap.size w w4 := hbE.trans (hb4.mono hbE.size)
  clear e1 e2 c0 c1 c2 c3 d0 d1 d2 d3 hb4 hIS
  have hbR : ∀ d os, Below w.heap.size w (grow (redrawn w4 d) os) := fun d os => hbU.trans ((below_regrown w4 d os).mono hbU.size)
  have g0 := cell_regrown p1.c0
  have g1 := cell_regrown p1.c1
  have g2 := cell_regrown p1.c2
  have g3 := cell_regrown p1.c3
  have g4 := cell_regrown p2.c0
  have g5 := cell_regrown p2.c1
  have g6 := cell_regrown p2.c2
  have g7 := cell_regrown p2.c3
  have cSo := fun d os => Calls.regrown_of (w := w4) (d := d) (os := os) (hSo _)
  have cGo := fun d os => Calls.regrown_of (w := w4) (d := d) (os := os) (hGo _)
  clear hSo hGo p1 p2
  simp only at g0 g1 g2 g3 g4 g5 g6 g7
  refine wp_region_quiet_below (by kernel_rfl) (by kernel_rfl) ?_
  repeat (quiet_step (first | (go_at_call 15; exact cSo _ _) | (go_at_call 16; exact cGo _ _)))
  refine wpQuiet_nil ?_
  intro _ hw'
  obtain ⟨⟨dq2, osq2⟩, hw''⟩ := hw'
  subst hw''
  have hbZ := hbR dq2 osq2
  go_wp2
  go_ret
  exact ⟨by simp, hbZ⟩
end Go.Proofs.YtdlacmfejlmpdabDoor
