/-
  The law PlaceWay answers true where all three places are well.
-/
import Derived.Test.YtpigcjbjjnaogaaDoorPWay
namespace Go.Proofs.YtpigcjbjjnaogaaDoor
open Go.RowKit Go.Lib Go.Sort

/-- The cells of three places in a row. -/
theorem row_three (w : World) (x y z : Pl) (n : Nat) (hn : n = w.heap.size) : RowP (w.alloc (.cells #[.string x.1, .int .i64 x.2.1, .int .i64 x.2.2, .string y.1, .int .i64 y.2.1, .int .i64 y.2.2, .string z.1, .int .i64 z.2.1, .int .i64 z.2.2] 47)) n 0 #[x, y, z] := by
  intro j hj
  have hj9 : j < 9 := hj
  rw [Nat.zero_add, World.cell?_alloc_at _ _ _ _ hn, get_flatK encP 3 _ j hj]
  clear hj
  rcases j with _ | _ | _ | _ | _ | _ | _ | _ | _ | j
  all_goals first | rfl | omega
theorem cells_three {w : World} {g : Nat} {d : Array Pl} (h : HoldsK encP 3 w g 0 d) (hd : d.size = 3) : ∃ e0 e1 e2 : Pl, d[0]! = e0 ∧ d[1]! = e1 ∧ d[2]! = e2 ∧
    (w.cell? ⟨g, 0, none⟩ = some (.string e0.1) ∧ w.cell? ⟨g, 1, none⟩ = some (.int .i64 e0.2.1) ∧ w.cell? ⟨g, 2, none⟩ = some (.int .i64 e0.2.2)) ∧
    (w.cell? ⟨g, 3, none⟩ = some (.string e1.1) ∧ w.cell? ⟨g, 4, none⟩ = some (.int .i64 e1.2.1) ∧ w.cell? ⟨g, 5, none⟩ = some (.int .i64 e1.2.2)) ∧
    (w.cell? ⟨g, 6, none⟩ = some (.string e2.1) ∧ w.cell? ⟨g, 7, none⟩ = some (.int .i64 e2.2.1) ∧ w.cell? ⟨g, 8, none⟩ = some (.int .i64 e2.2.2)) := by
  have hc : ∀ j, j < 9 → w.cell? ⟨g, j, none⟩ = some ((encP d[j / 3]!)[j % 3]!) := by
    intro j hj
    have := (h j (by rw [size_flatK, hd]; exact hj)).1
    rw [Nat.zero_add, get_flatK encP 3 d j (by rw [hd]; exact hj)] at this
    exact this
  exact ⟨d[0]!, d[1]!, d[2]!, rfl, rfl, rfl, ⟨hc 0 (by decide), hc 1 (by decide), hc 2 (by decide)⟩, ⟨hc 3 (by decide), hc 4 (by decide), hc 5 (by decide)⟩, ⟨hc 6 (by decide), hc 7 (by decide), hc 8 (by decide)⟩⟩

set_option maxRecDepth 100000 in
set_option maxHeartbeats 4000000 in
/-- The law behind its first test, by what the calls answer. -/
theorem way_core (x y z : Pl) (w : World) (ab ba bc ac eq : Bool) (n n3 n4 : Int)
    (HB : Hid (Below w.heap.size w (boxThree w x y z)))
    (ht : Calls Tryd.prog 22 #[] (boxThree w x y z) fun e w' => e = .returned (.bool true) ∧ Below (boxThree w x y z).heap.size (boxThree w x y z) w')
    (k : BoxThree w.heap.size x y z (boxThree w x y z))
    (h1 : ∀ w1, Below w.heap.size w w1 → Calls Tryd.prog 25 #[agP x] w1 fun e w' => e = .returned .nilIface ∧ Below w1.heap.size w1 w')
    (h2 : ∀ w1, Below w.heap.size w w1 → Calls Tryd.prog 25 #[agP y] w1 fun e w' => e = .returned .nilIface ∧ Below w1.heap.size w1 w')
    (h3 : ∀ w1, Below w.heap.size w w1 → Calls Tryd.prog 25 #[agP z] w1 fun e w' => e = .returned .nilIface ∧ Below w1.heap.size w1 w')
    (hab : ∀ w1, Calls Tryd.prog 30 #[agP x, agP y] w1 fun e w' => e = .returned (.bool ab) ∧ Below w1.heap.size w1 w')
    (hba : ∀ w1, Calls Tryd.prog 30 #[agP y, agP x] w1 fun e w' => e = .returned (.bool ba) ∧ Below w1.heap.size w1 w')
    (hbc : ∀ w1, Calls Tryd.prog 30 #[agP y, agP z] w1 fun e w' => e = .returned (.bool bc) ∧ Below w1.heap.size w1 w')
    (hac : ∀ w1, Calls Tryd.prog 30 #[agP x, agP z] w1 fun e w' => e = .returned (.bool ac) ∧ Below w1.heap.size w1 w')
    (s1 : ∀ w1, Below w.heap.size w w1 → Calls Tryd.prog 31 #[agP x, agP y] w1 fun e w' => e = .returned (.int .i64 n) ∧ Below w1.heap.size w1 w')
    (s2 : ∀ w1, Below w.heap.size w w1 → Calls Tryd.prog 31 #[agP y, agP x] w1 fun e w' => e = .returned (.int .i64 n) ∧ Below w1.heap.size w1 w')
    (s3 : ∀ w1, Below w.heap.size w w1 → Calls Tryd.prog 31 #[agP x, agP z] w1 fun e w' => e = .returned (.int .i64 n3) ∧ Below w1.heap.size w1 w')
    (s4 : ∀ w1, Below w.heap.size w w1 → Calls Tryd.prog 31 #[agP z, agP y] w1 fun e w' => e = .returned (.int .i64 n4) ∧ Below w1.heap.size w1 w')
    (hE : ∀ w, (Op.equalIn 10000 47 (agP x) (agP y)).run Tryd.prog w = .ok eq w)
    (f1 : (ab && ba) = false) (f2 : (ab || ba) = !eq) (f3 : ab = true → bc = true → ac = true) (f4 : (n == 0) = eq) (f5 : n ≤ n3 + n4) (b3 : 0 ≤ n3) (b3' : n3 ≤ 300) (b4 : 0 ≤ n4) (b4' : n4 ≤ 300) :
    Calls Tryd.prog 7 #[agP x, agP y, agP z] w fun e w' => e = .returned (.bool true) ∧ Below w.heap.size w w' := by
  have hG := Tryd.guardP
  have hcase : (ab = true ∧ ba = false ∧ eq = false ∧ bc = true ∧ ac = true) ∨ (ab = true ∧ ba = false ∧ eq = false ∧ bc = false) ∨ (ab = false ∧ ba = true ∧ eq = false) ∨ (ab = false ∧ ba = false ∧ eq = true) := by
    cases ab <;> cases ba <;> cases eq <;> cases bc <;> cases ac <;> simp at f1 f2 f3 ⊢
  have HT : Hid (Calls Tryd.prog 22 #[] (boxThree w x y z) fun e w' => e = .returned (.bool true) ∧ Below (boxThree w x y z).heap.size (boxThree w x y z) w') := ht
  clear ht f1 f2 f3
  obtain ⟨a, r, b⟩ := x
  obtain ⟨a', r', b'⟩ := y
  obtain ⟨a'', r'', b''⟩ := z
  unfold agP boxThree at *
  simp only at *
  rcases hcase with ⟨rfl, rfl, rfl, rfl, rfl⟩ | ⟨rfl, rfl, rfl, rfl⟩ | ⟨rfl, rfl, rfl⟩ | ⟨rfl, rfl, rfl⟩
  · go_enter Tryd.func7, Tryd.ntmps7
    go_wp2_with (first
      | (go_at_call 22; refine HT.out.mono ?_; rintro e w1 ⟨rfl, hb⟩; have k1 := k.below hb; obtain ⟨⟨c0, c1, c2⟩, ⟨d0, d1, d2⟩, ⟨f0, f1, f2⟩⟩ := k.below hb; have hb1 : Below w.heap.size w w1 := HB.out.trans (hb.mono HB.out.size))
      | (go_at_call 25; refine (h1 _ hb1).mono ?_; rintro e w2 ⟨rfl, hb'⟩; have k2 := k1.below hb'; obtain ⟨⟨c0', c1', c2'⟩, ⟨d0', d1', d2'⟩, ⟨f0', f1', f2'⟩⟩ := k1.below hb'; have hb2 : Below w.heap.size w w2 := hb1.trans (hb'.mono hb1.size); clear h1)
      | (go_at_call 25; refine (h2 _ hb2).mono ?_; rintro e w3 ⟨rfl, hb''⟩; have k3 := k2.below hb''; obtain ⟨⟨c0'', c1'', c2''⟩, ⟨d0'', d1'', d2''⟩, ⟨f0'', f1'', f2''⟩⟩ := k2.below hb''; have hb3 : Below w.heap.size w w3 := hb2.trans (hb''.mono hb2.size); clear h2)
      | (go_at_call 25; refine (h3 _ hb3).mono ?_; rintro e w4 ⟨rfl, hb4⟩; have k4 := k3.below hb4; have hbE : Below w.heap.size w w4 := hb3.trans (hb4.mono hb3.size); clear h3 c0 c1 c2 d0 d1 d2 f0 f1 f2 c0' c1' c2' d0' d1' d2' f0' f1' f2' c0'' c1'' c2'' d0'' d1'' d2'' f0'' f1'' f2'' k k1 k2 k3 hb hb' hb'' hb4 hb1 hb2 hb3 HT; have K0 : BoxThree w.heap.size (a, r, b) (a', r', b') (a'', r'', b'') w4 := k4; obtain ⟨⟨c0, c1, c2⟩, ⟨d0, d1, d2⟩, ⟨f0, f1, f2⟩⟩ := k4)
      | (go_at_call 30; refine (hab _).mono ?_; rintro e v0 ⟨rfl, g0⟩; have K1 := K0.below g0; have G0 : Below w.heap.size w v0 := hbE.trans (g0.mono hbE.size); obtain ⟨⟨p00, p01, p02⟩, ⟨q00, q01, q02⟩, ⟨r00, r01, r02⟩⟩ := K0.below g0; clear hab)
      | (go_at_call 30; refine (hba _).mono ?_; rintro e v1 ⟨rfl, g1⟩; have K2 := K1.below g1; have G1 : Below w.heap.size w v1 := G0.trans (g1.mono G0.size); obtain ⟨⟨p10, p11, p12⟩, ⟨q10, q11, q12⟩, ⟨r10, r11, r12⟩⟩ := K1.below g1; clear hba)
      | (go_at_call 30; refine (hbc _).mono ?_; rintro e v2 ⟨rfl, g2⟩; have K3 := K2.below g2; have G2 : Below w.heap.size w v2 := G1.trans (g2.mono G1.size); obtain ⟨⟨p20, p21, p22⟩, ⟨q20, q21, q22⟩, ⟨r20, r21, r22⟩⟩ := K2.below g2; clear hbc)
      | (go_at_call 30; refine (hac _).mono ?_; rintro e v3 ⟨rfl, g3⟩; have K4 := K3.below g3; have G3 : Below w.heap.size w v3 := G2.trans (g3.mono G2.size); obtain ⟨⟨p30, p31, p32⟩, ⟨q30, q31, q32⟩, ⟨r30, r31, r32⟩⟩ := K3.below g3; clear hac)
      | (go_at_call 31; refine (s1 _ G3).mono ?_; rintro e v4 ⟨rfl, g4⟩; have K5 := K4.below g4; have G4 : Below w.heap.size w v4 := G3.trans (g4.mono G3.size); obtain ⟨⟨p40, p41, p42⟩, ⟨q40, q41, q42⟩, ⟨r40, r41, r42⟩⟩ := K4.below g4; clear s1))
    have hbW := G4
    have KW := K5
    clear p00 p01 p02 q00 q01 q02 r00 r01 r02 g0 p10 p11 p12 q10 q11 q12 r10 r11 r12 g1 p20 p21 p22 q20 q21 q22 r20 r21 r22 g2 p30 p31 p32 q30 q31 q32 r30 r31 r32 g3 p40 p41 p42 q40 q41 q42 r40 r41 r42 g4 K0 K1 K2 K3 K4 G0 G1 G2 G3 G4 K5 c0 c1 c2 d0 d1 d2 f0 f1 f2 hbE
    generalize v4 = W at hbW KW ⊢
    have hbR : ∀ d os, Below w.heap.size w (grow (redrawn W d) os) := fun d os => hbW.trans ((below_regrown W d os).mono hbW.size)
    have g0 := cell_regrown KW.fst.c0
    have g1 := cell_regrown KW.fst.c1
    have g2 := cell_regrown KW.fst.c2
    have g3 := cell_regrown KW.snd.c0
    have g4 := cell_regrown KW.snd.c1
    have g5 := cell_regrown KW.snd.c2
    have g6 := cell_regrown KW.thd.c0
    have g7 := cell_regrown KW.thd.c1
    have g8 := cell_regrown KW.thd.c2
    have cS2 := fun d os => Calls.regrown_of (w := W) (s2 _ (hbR d os))
    have cS3 := fun d os => Calls.regrown_of (w := W) (s3 _ (hbR d os))
    have cS4 := fun d os => Calls.regrown_of (w := W) (s4 _ (hbR d os))
    clear s2 s3 s4
    simp only at g0 g1 g2 g3 g4 g5 g6 g7 g8
    have hw34 : IntKind.i64.wrap (n3 + n4) = n3 + n4 := by rw [IntKind.wrap_i64]; omega
    refine wp_region_quiet_below (by kernel_rfl) (by kernel_rfl) ?_
    repeat (quiet_step (first
      | (go_at_call_of 31 (Value.agg #[Value.string a, Value.int .i64 r, Value.int .i64 b]); go_at_call_of 31 (Value.agg #[Value.string a'', Value.int .i64 r'', Value.int .i64 b'']); exact cS3 _ _)
      | (go_at_call_of 31 (Value.agg #[Value.string a'', Value.int .i64 r'', Value.int .i64 b'']); exact cS4 _ _)
      | (go_at_call 31; exact cS2 _ _)))
    refine wpQuiet_nil ?_
    intro _ hw'
    obtain ⟨⟨dq, osq⟩, hw''⟩ := hw'
    subst hw''
    have hbV := hbR dq osq
    have KV := KW.below (below_regrown W dq osq)
    generalize grow (redrawn W dq) osq = V at hbV KV ⊢
    clear cS2 cS3 cS4 g0 g1 g2 g3 g4 g5 g6 g7 g8 hbR KW hbW hE hG
    obtain ⟨⟨c0, c1, c2⟩, ⟨d0, d1, d2⟩, ⟨f0, f1, f2⟩⟩ := KV
    simp only at c0 c1 c2 d0 d1 d2 f0 f1 f2
    have hwk := walk_some V.heap.size 0 3 #[(a, r, b), (a', r', b'), (a'', r'', b'')] _ (by simp) (row_three V (a, r, b) (a', r', b') (a'', r'', b'') _ rfl)
    simp only [List.size_toArray, List.length_cons, List.length_nil, Nat.reduceAdd] at hwk
    have HW : Hid (Calls Tryd.prog 33 _ _ _) := hwk
    clear hwk
    go_wp2_with (go_at_call 33; refine HW.out.mono ?_; rintro e w9 ⟨g, cap, d', rfl, hg, hp, hso, hH, hb9⟩)
    obtain ⟨e0, e1, e2, x0, x1, x2, ⟨y0, y1, y2⟩, ⟨y3, y4, y5⟩, ⟨y6, y7, y8⟩⟩ := cells_three hH hp.1
    have t1 := hso 0 1 (by decide) (by decide) (by decide)
    have t2 := hso 1 2 (by decide) (by decide) (by decide)
    rw [x0, x1] at t1
    rw [x1, x2] at t2
    have a1 := fun w1 => ahead_any e1 e0 w1
    have a2 := fun w1 => ahead_any e2 e1 w1
    rw [t1] at a1
    rw [t2] at a2
    have hbZ : Below w.heap.size w w9 := (hbV.alloc hbV.size _).trans (hb9.mono (by simp; exact Nat.le_succ_of_le hbV.size))
    clear hH hp hso t1 t2 x0 x1 x2 hb9 hg c0 c1 c2 d0 d1 d2 f0 f1 f2 HW
    obtain ⟨s0, s1, s2⟩ := e0
    obtain ⟨s3, s4, s5⟩ := e1
    obtain ⟨s6, s7, s8⟩ := e2
    unfold agP at a1 a2
    simp only at *
    have hbR : ∀ d os, Below w.heap.size w (grow (redrawn w9 d) os) := fun d os => hbZ.trans ((below_regrown w9 d os).mono hbZ.size)
    have z0 := cell_regrown y0
    have z1 := cell_regrown y1
    have z2 := cell_regrown y2
    have z3 := cell_regrown y3
    have z4 := cell_regrown y4
    have z5 := cell_regrown y5
    have z6 := cell_regrown y6
    have z7 := cell_regrown y7
    have z8 := cell_regrown y8
    have cA1 := fun d os => Calls.regrown_of (w := w9) (d := d) (os := os) (a1 _)
    have cA2 := fun d os => Calls.regrown_of (w := w9) (d := d) (os := os) (a2 _)
    clear a1 a2 y0 y1 y2 y3 y4 y5 y6 y7 y8
    refine wp_region_quiet_below (by kernel_rfl) (by kernel_rfl) ?_
    repeat (quiet_step (first
      | (go_at_call_of 30 (Value.agg #[Value.string s0, Value.int .i64 s1, Value.int .i64 s2]); exact cA1 _ _)
      | (go_at_call 30; exact cA2 _ _)))
    refine wpQuiet_nil ?_
    intro _ hw'
    obtain ⟨⟨dq2, osq2⟩, hw''⟩ := hw'
    subst hw''
    have hbY := hbR dq2 osq2
    go_wp2
    go_ret
    exact ⟨rfl, hbY⟩
  · go_enter Tryd.func7, Tryd.ntmps7
    go_wp2_with (first
      | (go_at_call 22; refine HT.out.mono ?_; rintro e w1 ⟨rfl, hb⟩; have k1 := k.below hb; obtain ⟨⟨c0, c1, c2⟩, ⟨d0, d1, d2⟩, ⟨f0, f1, f2⟩⟩ := k.below hb; have hb1 : Below w.heap.size w w1 := HB.out.trans (hb.mono HB.out.size))
      | (go_at_call 25; refine (h1 _ hb1).mono ?_; rintro e w2 ⟨rfl, hb'⟩; have k2 := k1.below hb'; obtain ⟨⟨c0', c1', c2'⟩, ⟨d0', d1', d2'⟩, ⟨f0', f1', f2'⟩⟩ := k1.below hb'; have hb2 : Below w.heap.size w w2 := hb1.trans (hb'.mono hb1.size); clear h1)
      | (go_at_call 25; refine (h2 _ hb2).mono ?_; rintro e w3 ⟨rfl, hb''⟩; have k3 := k2.below hb''; obtain ⟨⟨c0'', c1'', c2''⟩, ⟨d0'', d1'', d2''⟩, ⟨f0'', f1'', f2''⟩⟩ := k2.below hb''; have hb3 : Below w.heap.size w w3 := hb2.trans (hb''.mono hb2.size); clear h2)
      | (go_at_call 25; refine (h3 _ hb3).mono ?_; rintro e w4 ⟨rfl, hb4⟩; have k4 := k3.below hb4; have hbE : Below w.heap.size w w4 := hb3.trans (hb4.mono hb3.size); clear h3 c0 c1 c2 d0 d1 d2 f0 f1 f2 c0' c1' c2' d0' d1' d2' f0' f1' f2' c0'' c1'' c2'' d0'' d1'' d2'' f0'' f1'' f2'' k k1 k2 k3 hb hb' hb'' hb4 hb1 hb2 hb3 HT; have K0 : BoxThree w.heap.size (a, r, b) (a', r', b') (a'', r'', b'') w4 := k4; obtain ⟨⟨c0, c1, c2⟩, ⟨d0, d1, d2⟩, ⟨f0, f1, f2⟩⟩ := k4)
      | (go_at_call 30; refine (hab _).mono ?_; rintro e v0 ⟨rfl, g0⟩; have K1 := K0.below g0; have G0 : Below w.heap.size w v0 := hbE.trans (g0.mono hbE.size); obtain ⟨⟨p00, p01, p02⟩, ⟨q00, q01, q02⟩, ⟨r00, r01, r02⟩⟩ := K0.below g0; clear hab)
      | (go_at_call 30; refine (hba _).mono ?_; rintro e v1 ⟨rfl, g1⟩; have K2 := K1.below g1; have G1 : Below w.heap.size w v1 := G0.trans (g1.mono G0.size); obtain ⟨⟨p10, p11, p12⟩, ⟨q10, q11, q12⟩, ⟨r10, r11, r12⟩⟩ := K1.below g1; clear hba)
      | (go_at_call 30; refine (hbc _).mono ?_; rintro e v2 ⟨rfl, g2⟩; have K3 := K2.below g2; have G2 : Below w.heap.size w v2 := G1.trans (g2.mono G1.size); obtain ⟨⟨p20, p21, p22⟩, ⟨q20, q21, q22⟩, ⟨r20, r21, r22⟩⟩ := K2.below g2; clear hbc)
      | (go_at_call 31; refine (s1 _ G2).mono ?_; rintro e v3 ⟨rfl, g3⟩; have K4 := K3.below g3; have G3 : Below w.heap.size w v3 := G2.trans (g3.mono G2.size); obtain ⟨⟨p30, p31, p32⟩, ⟨q30, q31, q32⟩, ⟨r30, r31, r32⟩⟩ := K3.below g3; clear s1))
    have hbW := G3
    have KW := K4
    clear p00 p01 p02 q00 q01 q02 r00 r01 r02 g0 p10 p11 p12 q10 q11 q12 r10 r11 r12 g1 p20 p21 p22 q20 q21 q22 r20 r21 r22 g2 p30 p31 p32 q30 q31 q32 r30 r31 r32 g3 K0 K1 K2 K3 G0 G1 G2 G3 K4 c0 c1 c2 d0 d1 d2 f0 f1 f2 hbE
    generalize v3 = W at hbW KW ⊢
    have hbR : ∀ d os, Below w.heap.size w (grow (redrawn W d) os) := fun d os => hbW.trans ((below_regrown W d os).mono hbW.size)
    have g0 := cell_regrown KW.fst.c0
    have g1 := cell_regrown KW.fst.c1
    have g2 := cell_regrown KW.fst.c2
    have g3 := cell_regrown KW.snd.c0
    have g4 := cell_regrown KW.snd.c1
    have g5 := cell_regrown KW.snd.c2
    have g6 := cell_regrown KW.thd.c0
    have g7 := cell_regrown KW.thd.c1
    have g8 := cell_regrown KW.thd.c2
    have cS2 := fun d os => Calls.regrown_of (w := W) (s2 _ (hbR d os))
    have cS3 := fun d os => Calls.regrown_of (w := W) (s3 _ (hbR d os))
    have cS4 := fun d os => Calls.regrown_of (w := W) (s4 _ (hbR d os))
    clear s2 s3 s4
    simp only at g0 g1 g2 g3 g4 g5 g6 g7 g8
    have hw34 : IntKind.i64.wrap (n3 + n4) = n3 + n4 := by rw [IntKind.wrap_i64]; omega
    refine wp_region_quiet_below (by kernel_rfl) (by kernel_rfl) ?_
    repeat (quiet_step (first
      | (go_at_call_of 31 (Value.agg #[Value.string a, Value.int .i64 r, Value.int .i64 b]); go_at_call_of 31 (Value.agg #[Value.string a'', Value.int .i64 r'', Value.int .i64 b'']); exact cS3 _ _)
      | (go_at_call_of 31 (Value.agg #[Value.string a'', Value.int .i64 r'', Value.int .i64 b'']); exact cS4 _ _)
      | (go_at_call 31; exact cS2 _ _)))
    refine wpQuiet_nil ?_
    intro _ hw'
    obtain ⟨⟨dq, osq⟩, hw''⟩ := hw'
    subst hw''
    have hbV := hbR dq osq
    have KV := KW.below (below_regrown W dq osq)
    generalize grow (redrawn W dq) osq = V at hbV KV ⊢
    clear cS2 cS3 cS4 g0 g1 g2 g3 g4 g5 g6 g7 g8 hbR KW hbW hE hG
    obtain ⟨⟨c0, c1, c2⟩, ⟨d0, d1, d2⟩, ⟨f0, f1, f2⟩⟩ := KV
    simp only at c0 c1 c2 d0 d1 d2 f0 f1 f2
    have hwk := walk_some V.heap.size 0 3 #[(a, r, b), (a', r', b'), (a'', r'', b'')] _ (by simp) (row_three V (a, r, b) (a', r', b') (a'', r'', b'') _ rfl)
    simp only [List.size_toArray, List.length_cons, List.length_nil, Nat.reduceAdd] at hwk
    have HW : Hid (Calls Tryd.prog 33 _ _ _) := hwk
    clear hwk
    go_wp2_with (go_at_call 33; refine HW.out.mono ?_; rintro e w9 ⟨g, cap, d', rfl, hg, hp, hso, hH, hb9⟩)
    obtain ⟨e0, e1, e2, x0, x1, x2, ⟨y0, y1, y2⟩, ⟨y3, y4, y5⟩, ⟨y6, y7, y8⟩⟩ := cells_three hH hp.1
    have t1 := hso 0 1 (by decide) (by decide) (by decide)
    have t2 := hso 1 2 (by decide) (by decide) (by decide)
    rw [x0, x1] at t1
    rw [x1, x2] at t2
    have a1 := fun w1 => ahead_any e1 e0 w1
    have a2 := fun w1 => ahead_any e2 e1 w1
    rw [t1] at a1
    rw [t2] at a2
    have hbZ : Below w.heap.size w w9 := (hbV.alloc hbV.size _).trans (hb9.mono (by simp; exact Nat.le_succ_of_le hbV.size))
    clear hH hp hso t1 t2 x0 x1 x2 hb9 hg c0 c1 c2 d0 d1 d2 f0 f1 f2 HW
    obtain ⟨s0, s1, s2⟩ := e0
    obtain ⟨s3, s4, s5⟩ := e1
    obtain ⟨s6, s7, s8⟩ := e2
    unfold agP at a1 a2
    simp only at *
    have hbR : ∀ d os, Below w.heap.size w (grow (redrawn w9 d) os) := fun d os => hbZ.trans ((below_regrown w9 d os).mono hbZ.size)
    have z0 := cell_regrown y0
    have z1 := cell_regrown y1
    have z2 := cell_regrown y2
    have z3 := cell_regrown y3
    have z4 := cell_regrown y4
    have z5 := cell_regrown y5
    have z6 := cell_regrown y6
    have z7 := cell_regrown y7
    have z8 := cell_regrown y8
    have cA1 := fun d os => Calls.regrown_of (w := w9) (d := d) (os := os) (a1 _)
    have cA2 := fun d os => Calls.regrown_of (w := w9) (d := d) (os := os) (a2 _)
    clear a1 a2 y0 y1 y2 y3 y4 y5 y6 y7 y8
    refine wp_region_quiet_below (by kernel_rfl) (by kernel_rfl) ?_
    repeat (quiet_step (first
      | (go_at_call_of 30 (Value.agg #[Value.string s0, Value.int .i64 s1, Value.int .i64 s2]); exact cA1 _ _)
      | (go_at_call 30; exact cA2 _ _)))
    refine wpQuiet_nil ?_
    intro _ hw'
    obtain ⟨⟨dq2, osq2⟩, hw''⟩ := hw'
    subst hw''
    have hbY := hbR dq2 osq2
    go_wp2
    go_ret
    exact ⟨rfl, hbY⟩
  · go_enter Tryd.func7, Tryd.ntmps7
    go_wp2_with (first
      | (go_at_call 22; refine HT.out.mono ?_; rintro e w1 ⟨rfl, hb⟩; have k1 := k.below hb; obtain ⟨⟨c0, c1, c2⟩, ⟨d0, d1, d2⟩, ⟨f0, f1, f2⟩⟩ := k.below hb; have hb1 : Below w.heap.size w w1 := HB.out.trans (hb.mono HB.out.size))
      | (go_at_call 25; refine (h1 _ hb1).mono ?_; rintro e w2 ⟨rfl, hb'⟩; have k2 := k1.below hb'; obtain ⟨⟨c0', c1', c2'⟩, ⟨d0', d1', d2'⟩, ⟨f0', f1', f2'⟩⟩ := k1.below hb'; have hb2 : Below w.heap.size w w2 := hb1.trans (hb'.mono hb1.size); clear h1)
      | (go_at_call 25; refine (h2 _ hb2).mono ?_; rintro e w3 ⟨rfl, hb''⟩; have k3 := k2.below hb''; obtain ⟨⟨c0'', c1'', c2''⟩, ⟨d0'', d1'', d2''⟩, ⟨f0'', f1'', f2''⟩⟩ := k2.below hb''; have hb3 : Below w.heap.size w w3 := hb2.trans (hb''.mono hb2.size); clear h2)
      | (go_at_call 25; refine (h3 _ hb3).mono ?_; rintro e w4 ⟨rfl, hb4⟩; have k4 := k3.below hb4; have hbE : Below w.heap.size w w4 := hb3.trans (hb4.mono hb3.size); clear h3 c0 c1 c2 d0 d1 d2 f0 f1 f2 c0' c1' c2' d0' d1' d2' f0' f1' f2' c0'' c1'' c2'' d0'' d1'' d2'' f0'' f1'' f2'' k k1 k2 k3 hb hb' hb'' hb4 hb1 hb2 hb3 HT; have K0 : BoxThree w.heap.size (a, r, b) (a', r', b') (a'', r'', b'') w4 := k4; obtain ⟨⟨c0, c1, c2⟩, ⟨d0, d1, d2⟩, ⟨f0, f1, f2⟩⟩ := k4)
      | (go_at_call 30; refine (hab _).mono ?_; rintro e v0 ⟨rfl, g0⟩; have K1 := K0.below g0; have G0 : Below w.heap.size w v0 := hbE.trans (g0.mono hbE.size); obtain ⟨⟨p00, p01, p02⟩, ⟨q00, q01, q02⟩, ⟨r00, r01, r02⟩⟩ := K0.below g0; clear hab)
      | (go_at_call 30; refine (hba _).mono ?_; rintro e v1 ⟨rfl, g1⟩; have K2 := K1.below g1; have G1 : Below w.heap.size w v1 := G0.trans (g1.mono G0.size); obtain ⟨⟨p10, p11, p12⟩, ⟨q10, q11, q12⟩, ⟨r10, r11, r12⟩⟩ := K1.below g1; clear hba)
      | (go_at_call 31; refine (s1 _ G1).mono ?_; rintro e v2 ⟨rfl, g2⟩; have K3 := K2.below g2; have G2 : Below w.heap.size w v2 := G1.trans (g2.mono G1.size); obtain ⟨⟨p20, p21, p22⟩, ⟨q20, q21, q22⟩, ⟨r20, r21, r22⟩⟩ := K2.below g2; clear s1))
    have hbW := G2
    have KW := K3
    clear p00 p01 p02 q00 q01 q02 r00 r01 r02 g0 p10 p11 p12 q10 q11 q12 r10 r11 r12 g1 p20 p21 p22 q20 q21 q22 r20 r21 r22 g2 K0 K1 K2 G0 G1 G2 K3 c0 c1 c2 d0 d1 d2 f0 f1 f2 hbE
    generalize v2 = W at hbW KW ⊢
    have hbR : ∀ d os, Below w.heap.size w (grow (redrawn W d) os) := fun d os => hbW.trans ((below_regrown W d os).mono hbW.size)
    have g0 := cell_regrown KW.fst.c0
    have g1 := cell_regrown KW.fst.c1
    have g2 := cell_regrown KW.fst.c2
    have g3 := cell_regrown KW.snd.c0
    have g4 := cell_regrown KW.snd.c1
    have g5 := cell_regrown KW.snd.c2
    have g6 := cell_regrown KW.thd.c0
    have g7 := cell_regrown KW.thd.c1
    have g8 := cell_regrown KW.thd.c2
    have cS2 := fun d os => Calls.regrown_of (w := W) (s2 _ (hbR d os))
    have cS3 := fun d os => Calls.regrown_of (w := W) (s3 _ (hbR d os))
    have cS4 := fun d os => Calls.regrown_of (w := W) (s4 _ (hbR d os))
    clear s2 s3 s4
    simp only at g0 g1 g2 g3 g4 g5 g6 g7 g8
    have hw34 : IntKind.i64.wrap (n3 + n4) = n3 + n4 := by rw [IntKind.wrap_i64]; omega
    refine wp_region_quiet_below (by kernel_rfl) (by kernel_rfl) ?_
    repeat (quiet_step (first
      | (go_at_call_of 31 (Value.agg #[Value.string a, Value.int .i64 r, Value.int .i64 b]); go_at_call_of 31 (Value.agg #[Value.string a'', Value.int .i64 r'', Value.int .i64 b'']); exact cS3 _ _)
      | (go_at_call_of 31 (Value.agg #[Value.string a'', Value.int .i64 r'', Value.int .i64 b'']); exact cS4 _ _)
      | (go_at_call 31; exact cS2 _ _)))
    refine wpQuiet_nil ?_
    intro _ hw'
    obtain ⟨⟨dq, osq⟩, hw''⟩ := hw'
    subst hw''
    have hbV := hbR dq osq
    have KV := KW.below (below_regrown W dq osq)
    generalize grow (redrawn W dq) osq = V at hbV KV ⊢
    clear cS2 cS3 cS4 g0 g1 g2 g3 g4 g5 g6 g7 g8 hbR KW hbW hE hG
    obtain ⟨⟨c0, c1, c2⟩, ⟨d0, d1, d2⟩, ⟨f0, f1, f2⟩⟩ := KV
    simp only at c0 c1 c2 d0 d1 d2 f0 f1 f2
    have hwk := walk_some V.heap.size 0 3 #[(a, r, b), (a', r', b'), (a'', r'', b'')] _ (by simp) (row_three V (a, r, b) (a', r', b') (a'', r'', b'') _ rfl)
    simp only [List.size_toArray, List.length_cons, List.length_nil, Nat.reduceAdd] at hwk
    have HW : Hid (Calls Tryd.prog 33 _ _ _) := hwk
    clear hwk
    go_wp2_with (go_at_call 33; refine HW.out.mono ?_; rintro e w9 ⟨g, cap, d', rfl, hg, hp, hso, hH, hb9⟩)
    obtain ⟨e0, e1, e2, x0, x1, x2, ⟨y0, y1, y2⟩, ⟨y3, y4, y5⟩, ⟨y6, y7, y8⟩⟩ := cells_three hH hp.1
    have t1 := hso 0 1 (by decide) (by decide) (by decide)
    have t2 := hso 1 2 (by decide) (by decide) (by decide)
    rw [x0, x1] at t1
    rw [x1, x2] at t2
    have a1 := fun w1 => ahead_any e1 e0 w1
    have a2 := fun w1 => ahead_any e2 e1 w1
    rw [t1] at a1
    rw [t2] at a2
    have hbZ : Below w.heap.size w w9 := (hbV.alloc hbV.size _).trans (hb9.mono (by simp; exact Nat.le_succ_of_le hbV.size))
    clear hH hp hso t1 t2 x0 x1 x2 hb9 hg c0 c1 c2 d0 d1 d2 f0 f1 f2 HW
    obtain ⟨s0, s1, s2⟩ := e0
    obtain ⟨s3, s4, s5⟩ := e1
    obtain ⟨s6, s7, s8⟩ := e2
    unfold agP at a1 a2
    simp only at *
    have hbR : ∀ d os, Below w.heap.size w (grow (redrawn w9 d) os) := fun d os => hbZ.trans ((below_regrown w9 d os).mono hbZ.size)
    have z0 := cell_regrown y0
    have z1 := cell_regrown y1
    have z2 := cell_regrown y2
    have z3 := cell_regrown y3
    have z4 := cell_regrown y4
    have z5 := cell_regrown y5
    have z6 := cell_regrown y6
    have z7 := cell_regrown y7
    have z8 := cell_regrown y8
    have cA1 := fun d os => Calls.regrown_of (w := w9) (d := d) (os := os) (a1 _)
    have cA2 := fun d os => Calls.regrown_of (w := w9) (d := d) (os := os) (a2 _)
    clear a1 a2 y0 y1 y2 y3 y4 y5 y6 y7 y8
    refine wp_region_quiet_below (by kernel_rfl) (by kernel_rfl) ?_
    repeat (quiet_step (first
      | (go_at_call_of 30 (Value.agg #[Value.string s0, Value.int .i64 s1, Value.int .i64 s2]); exact cA1 _ _)
      | (go_at_call 30; exact cA2 _ _)))
    refine wpQuiet_nil ?_
    intro _ hw'
    obtain ⟨⟨dq2, osq2⟩, hw''⟩ := hw'
    subst hw''
    have hbY := hbR dq2 osq2
    go_wp2
    go_ret
    exact ⟨rfl, hbY⟩
  · go_enter Tryd.func7, Tryd.ntmps7
    go_wp2_with (first
      | (go_at_call 22; refine HT.out.mono ?_; rintro e w1 ⟨rfl, hb⟩; have k1 := k.below hb; obtain ⟨⟨c0, c1, c2⟩, ⟨d0, d1, d2⟩, ⟨f0, f1, f2⟩⟩ := k.below hb; have hb1 : Below w.heap.size w w1 := HB.out.trans (hb.mono HB.out.size))
      | (go_at_call 25; refine (h1 _ hb1).mono ?_; rintro e w2 ⟨rfl, hb'⟩; have k2 := k1.below hb'; obtain ⟨⟨c0', c1', c2'⟩, ⟨d0', d1', d2'⟩, ⟨f0', f1', f2'⟩⟩ := k1.below hb'; have hb2 : Below w.heap.size w w2 := hb1.trans (hb'.mono hb1.size); clear h1)
      | (go_at_call 25; refine (h2 _ hb2).mono ?_; rintro e w3 ⟨rfl, hb''⟩; have k3 := k2.below hb''; obtain ⟨⟨c0'', c1'', c2''⟩, ⟨d0'', d1'', d2''⟩, ⟨f0'', f1'', f2''⟩⟩ := k2.below hb''; have hb3 : Below w.heap.size w w3 := hb2.trans (hb''.mono hb2.size); clear h2)
      | (go_at_call 25; refine (h3 _ hb3).mono ?_; rintro e w4 ⟨rfl, hb4⟩; have k4 := k3.below hb4; have hbE : Below w.heap.size w w4 := hb3.trans (hb4.mono hb3.size); clear h3 c0 c1 c2 d0 d1 d2 f0 f1 f2 c0' c1' c2' d0' d1' d2' f0' f1' f2' c0'' c1'' c2'' d0'' d1'' d2'' f0'' f1'' f2'' k k1 k2 k3 hb hb' hb'' hb4 hb1 hb2 hb3 HT; have K0 : BoxThree w.heap.size (a, r, b) (a', r', b') (a'', r'', b'') w4 := k4; obtain ⟨⟨c0, c1, c2⟩, ⟨d0, d1, d2⟩, ⟨f0, f1, f2⟩⟩ := k4)
      | (go_at_call 30; refine (hab _).mono ?_; rintro e v0 ⟨rfl, g0⟩; have K1 := K0.below g0; have G0 : Below w.heap.size w v0 := hbE.trans (g0.mono hbE.size); obtain ⟨⟨p00, p01, p02⟩, ⟨q00, q01, q02⟩, ⟨r00, r01, r02⟩⟩ := K0.below g0; clear hab)
      | (go_at_call 30; refine (hba _).mono ?_; rintro e v1 ⟨rfl, g1⟩; have K2 := K1.below g1; have G1 : Below w.heap.size w v1 := G0.trans (g1.mono G0.size); obtain ⟨⟨p10, p11, p12⟩, ⟨q10, q11, q12⟩, ⟨r10, r11, r12⟩⟩ := K1.below g1; clear hba)
      | (go_at_call 31; refine (s1 _ G1).mono ?_; rintro e v2 ⟨rfl, g2⟩; have K3 := K2.below g2; have G2 : Below w.heap.size w v2 := G1.trans (g2.mono G1.size); obtain ⟨⟨p20, p21, p22⟩, ⟨q20, q21, q22⟩, ⟨r20, r21, r22⟩⟩ := K2.below g2; clear s1))
    have hbW := G2
    have KW := K3
    clear p00 p01 p02 q00 q01 q02 r00 r01 r02 g0 p10 p11 p12 q10 q11 q12 r10 r11 r12 g1 p20 p21 p22 q20 q21 q22 r20 r21 r22 g2 K0 K1 K2 G0 G1 G2 K3 c0 c1 c2 d0 d1 d2 f0 f1 f2 hbE
    generalize v2 = W at hbW KW ⊢
    have hbR : ∀ d os, Below w.heap.size w (grow (redrawn W d) os) := fun d os => hbW.trans ((below_regrown W d os).mono hbW.size)
    have g0 := cell_regrown KW.fst.c0
    have g1 := cell_regrown KW.fst.c1
    have g2 := cell_regrown KW.fst.c2
    have g3 := cell_regrown KW.snd.c0
    have g4 := cell_regrown KW.snd.c1
    have g5 := cell_regrown KW.snd.c2
    have g6 := cell_regrown KW.thd.c0
    have g7 := cell_regrown KW.thd.c1
    have g8 := cell_regrown KW.thd.c2
    have cS2 := fun d os => Calls.regrown_of (w := W) (s2 _ (hbR d os))
    have cS3 := fun d os => Calls.regrown_of (w := W) (s3 _ (hbR d os))
    have cS4 := fun d os => Calls.regrown_of (w := W) (s4 _ (hbR d os))
    clear s2 s3 s4
    simp only at g0 g1 g2 g3 g4 g5 g6 g7 g8
    have hw34 : IntKind.i64.wrap (n3 + n4) = n3 + n4 := by rw [IntKind.wrap_i64]; omega
    refine wp_region_quiet_below (by kernel_rfl) (by kernel_rfl) ?_
    repeat (quiet_step (first
      | (go_at_call_of 31 (Value.agg #[Value.string a, Value.int .i64 r, Value.int .i64 b]); go_at_call_of 31 (Value.agg #[Value.string a'', Value.int .i64 r'', Value.int .i64 b'']); exact cS3 _ _)
      | (go_at_call_of 31 (Value.agg #[Value.string a'', Value.int .i64 r'', Value.int .i64 b'']); exact cS4 _ _)
      | (go_at_call 31; exact cS2 _ _)))
    refine wpQuiet_nil ?_
    intro _ hw'
    obtain ⟨⟨dq, osq⟩, hw''⟩ := hw'
    subst hw''
    have hbV := hbR dq osq
    have KV := KW.below (below_regrown W dq osq)
    generalize grow (redrawn W dq) osq = V at hbV KV ⊢
    clear cS2 cS3 cS4 g0 g1 g2 g3 g4 g5 g6 g7 g8 hbR KW hbW hE hG
    obtain ⟨⟨c0, c1, c2⟩, ⟨d0, d1, d2⟩, ⟨f0, f1, f2⟩⟩ := KV
    simp only at c0 c1 c2 d0 d1 d2 f0 f1 f2
    have hwk := walk_some V.heap.size 0 3 #[(a, r, b), (a', r', b'), (a'', r'', b'')] _ (by simp) (row_three V (a, r, b) (a', r', b') (a'', r'', b'') _ rfl)
    simp only [List.size_toArray, List.length_cons, List.length_nil, Nat.reduceAdd] at hwk
    have HW : Hid (Calls Tryd.prog 33 _ _ _) := hwk
    clear hwk
    go_wp2_with (go_at_call 33; refine HW.out.mono ?_; rintro e w9 ⟨g, cap, d', rfl, hg, hp, hso, hH, hb9⟩)
    obtain ⟨e0, e1, e2, x0, x1, x2, ⟨y0, y1, y2⟩, ⟨y3, y4, y5⟩, ⟨y6, y7, y8⟩⟩ := cells_three hH hp.1
    have t1 := hso 0 1 (by decide) (by decide) (by decide)
    have t2 := hso 1 2 (by decide) (by decide) (by decide)
    rw [x0, x1] at t1
    rw [x1, x2] at t2
    have a1 := fun w1 => ahead_any e1 e0 w1
    have a2 := fun w1 => ahead_any e2 e1 w1
    rw [t1] at a1
    rw [t2] at a2
    have hbZ : Below w.heap.size w w9 := (hbV.alloc hbV.size _).trans (hb9.mono (by simp; exact Nat.le_succ_of_le hbV.size))
    clear hH hp hso t1 t2 x0 x1 x2 hb9 hg c0 c1 c2 d0 d1 d2 f0 f1 f2 HW
    obtain ⟨s0, s1, s2⟩ := e0
    obtain ⟨s3, s4, s5⟩ := e1
    obtain ⟨s6, s7, s8⟩ := e2
    unfold agP at a1 a2
    simp only at *
    have hbR : ∀ d os, Below w.heap.size w (grow (redrawn w9 d) os) := fun d os => hbZ.trans ((below_regrown w9 d os).mono hbZ.size)
    have z0 := cell_regrown y0
    have z1 := cell_regrown y1
    have z2 := cell_regrown y2
    have z3 := cell_regrown y3
    have z4 := cell_regrown y4
    have z5 := cell_regrown y5
    have z6 := cell_regrown y6
    have z7 := cell_regrown y7
    have z8 := cell_regrown y8
    have cA1 := fun d os => Calls.regrown_of (w := w9) (d := d) (os := os) (a1 _)
    have cA2 := fun d os => Calls.regrown_of (w := w9) (d := d) (os := os) (a2 _)
    clear a1 a2 y0 y1 y2 y3 y4 y5 y6 y7 y8
    refine wp_region_quiet_below (by kernel_rfl) (by kernel_rfl) ?_
    repeat (quiet_step (first
      | (go_at_call_of 30 (Value.agg #[Value.string s0, Value.int .i64 s1, Value.int .i64 s2]); exact cA1 _ _)
      | (go_at_call 30; exact cA2 _ _)))
    refine wpQuiet_nil ?_
    intro _ hw'
    obtain ⟨⟨dq2, osq2⟩, hw''⟩ := hw'
    subst hw''
    have hbY := hbR dq2 osq2
    go_wp2
    go_ret
    exact ⟨rfl, hbY⟩
/-- The law, where all are well. -/
theorem way_in (x y z : Pl) (w : World) (s : Nat → Addr) (hs : Two w s) (hp : Pow w) (wx : x.1.size ≤ maxLen) (wy : y.1.size ≤ maxLen) (wz : z.1.size ≤ maxLen) (ox : okP x = true) (oy : okP y = true) (oz : okP z = true) :
    Calls Tryd.prog 7 #[agP x, agP y, agP z] w fun e w' => e = .returned (.bool true) ∧ Below w.heap.size w w' := by
  have hB := boxThree_below w x y z
  have hk : ∀ u, okP u = true → u.1.size ≤ maxLen → ∀ w1, Below w.heap.size w w1 → Calls Tryd.prog 25 #[agP u] w1 fun e w' => e = .returned .nilIface ∧ Below w1.heap.size w1 w' := fun u hu hl w1 hb => by
    have := pcheck_any u w1 s hl (hs.below hb)
    rw [(okP_err u).1 hu, errP_zero] at this
    exact this
  refine way_core x y z w (aheadP x y) (aheadP y x) (aheadP y z) (aheadP x z) (decide (x = y)) (stepsP x y) (stepsP x z) (stepsP z y) hB (walked_any _ s (hs.below hB) (hp.below hB)) (boxThree_box w x y z) (hk x ox wx) (hk y oy wy) (hk z oz wz)
    (fun w1 => ahead_any x y w1) (fun w1 => ahead_any y x w1) (fun w1 => ahead_any y z w1) (fun w1 => ahead_any x z w1)
    (fun w1 hb => steps_any x y w1 s wx wy (hs.below hb)) ?_ (fun w1 hb => steps_any x z w1 s wx wz (hs.below hb)) (fun w1 hb => steps_any z y w1 s wz wy (hs.below hb)) (fun w1 => eqP_run x.1 y.1 x.2.1 x.2.2 y.2.1 y.2.2 w1)
    (aheadP_unlike x y).1 (aheadP_unlike x y).2 (fun h1 h2 => swoP.trans x y z h1 h2) ?_ (stepsP_tri ox oy oz) (stepsP_bound x z).1 (stepsP_bound x z).2 (stepsP_bound z y).1 (stepsP_bound z y).2
  · intro w1 hb
    rw [stepsP_comm]
    exact steps_any y x w1 s wy wx (hs.below hb)
  · rw [← stepsP_zero ox oy]; rfl
/-- The law. -/
theorem way_any (x y z : Pl) (w : World) (s : Nat → Addr) (hs : Two w s) (hp : Pow w) (wx : x.1.size ≤ maxLen) (wy : y.1.size ≤ maxLen) (wz : z.1.size ≤ maxLen) :
    Calls Tryd.prog 7 #[agP x, agP y, agP z] w fun e w' => e = .returned (.bool true) ∧ Below w.heap.size w w' := by
  cases h : (okP x && okP y && okP z) with
  | false => exact way_out x y z w s hs hp wx wy wz h
  | true =>
    simp only [Bool.and_eq_true] at h
    exact way_in x y z w s hs hp wx wy wz h.1.1 h.1.2 h.2
end Go.Proofs.YtpigcjbjjnaogaaDoor
