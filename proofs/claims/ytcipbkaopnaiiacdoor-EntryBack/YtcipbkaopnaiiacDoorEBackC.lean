/-
  The law EntryBack answers true, where both entries are well and two; over every world that holds the sentinels and strconv's table of powers as the program lays them; nothing old is turned.
-/
import Derived.Test.YtcipbkaopnaiiacDoorEBackA
namespace Go.Proofs.YtcipbkaopnaiiacDoor
open Go.RowKit Go.Lib Go.Sort

set_option maxRecDepth 100000 in
set_option maxHeartbeats 16000000 in
theorem back_other (a b : En) (w : World) (s : Nat → Addr) (hs : Es w s) (hp : Pow w) (ha : SzE a) (hb : SzE b) (hla : longE a = false) (hlb : longE b = false) (h : entErr a = 0) (h1 : entErr b = 0) (hab : a ≠ b) :
    Calls Tryd.prog 3 #[agE a, agE b] w fun e w' => e = .returned (.bool true) ∧ Below w.heap.size w w' := by
  have hB0 : Below w.heap.size w (w.alloc (celE a)) := (Below.refl _ w).alloc (Nat.le_refl _) _
  have hB1 : Below (w.alloc (celE a)).heap.size (w.alloc (celE a)) ((w.alloc (celE a)).alloc (celE b)) := (Below.refl _ _).alloc (Nat.le_refl _) _
  have hB : Below w.heap.size w ((w.alloc (celE a)).alloc (celE b)) := hB0.trans (hB1.mono hB0.size)
  have hA := (BlkE.new w a).below hB1
  have hBb := BlkE.new (w.alloc (celE a)) b
  have e1 : (w.alloc (celE a)).heap.size = w.heap.size + 1 := by simp
  rw [e1] at hBb
  have hN := entered_any ((w.alloc (celE a)).alloc (celE b)) s (hs.below hB) (hp.below hB)
  have hLa := fun w1 => long_any a w1 ha
  have hLb := fun w1 => long_any b w1 hb
  have hCa := fun w1 (hb' : Below w.heap.size w w1) => echeck_any a w1 s ha (hs.below hb')
  have hCb := fun w1 (hb' : Below w.heap.size w w1) => echeck_any b w1 s hb (hs.below hb')
  rw [hla, if_neg (by decide)] at hLa
  rw [hlb, if_neg (by decide)] at hLb
  rw [h, errP_zero] at hCa
  rw [h1, errP_zero] at hCb
  have hTa := fun w1 (hb' : Below w.heap.size w w1) => etext_any a w1 s ha (hs.below hb') (hp.below hb')
  have hTb := fun w1 (hb' : Below w.heap.size w w1) => etext_any b w1 s hb (hs.below hb') (hp.below hb')
  have hR := fun w1 (hb' : Below w.heap.size w w1) => eread_any (etext a) w1 s (by have := entB_len h; omega) (hs.below hb')
  rw [readE_back h, errP_zero] at hR
  have hQ1 := fun W => eqE_run a a W
  rw [sameE_iff.2 rfl] at hQ1
  have hQ2 := fun W => eqE_run a b W
  have hG := Tryd.guardE
  have e3 := same_eq (etext a) (etext b)
  rw [sameE_not hab] at hQ2
  rw [decide_eq_false (fun e => hab ((etext_inj h h1).1 e))] at e3
  generalize etext a = ta at *
  generalize etext b = tb at *
  clear h h1 hla hlb hab
  have HN : Hid (Calls Tryd.prog 4 _ _ _) := hN
  have HA : Hid (BlkE _ _ _) := hA
  have HBb : Hid (BlkE _ _ _) := hBb
  have HB : Hid (Below _ _ _) := hB
  clear hN hA hBb hB hB0 hB1 e1 ha hb hs hp
  obtain ⟨ak, ⟨agc, agp⟩, ⟨ali, alc, alu, alk⟩, ⟨afz, afr, afb⟩, ⟨atz, atr, atb⟩, an⟩ := a
  obtain ⟨bk, ⟨bgc, bgp⟩, ⟨bli, blc, blu, blk⟩, ⟨bfz, bfr, bfb⟩, ⟨btz, btr, btb⟩, bn⟩ := b
  unfold agE celE at *
  simp only at *
  go_enter Tryd.func3, Tryd.ntmps3
  go_wp2_with (go_at_call 4; refine HN.out.mono ?_; rintro e w1 ⟨rfl, hb1⟩; have hbw1 := HB.out.trans (hb1.mono HB.out.size); have hA1 := HA.out.below hb1; have hBb1 := HBb.out.below hb1; obtain ⟨c0, c1, c2, c3, c4, c5, c6, c7, c8, c9, c10, c11, c12, c13⟩ := hA1.at; obtain ⟨d0, d1, d2, d3, d4, d5, d6, d7, d8, d9, d10, d11, d12, d13⟩ := hBb1.at; simp only at c0 c1 c2 c3 c4 c5 c6 c7 c8 c9 c10 c11 c12 c13 d0 d1 d2 d3 d4 d5 d6 d7 d8 d9 d10 d11 d12 d13; clear hb1)
  clear HN HA HBb HB
  have k0 := cell_regrown c0
  have j0 := cell_regrown d0
  have k1 := cell_regrown c1
  have j1 := cell_regrown d1
  have k2 := cell_regrown c2
  have j2 := cell_regrown d2
  have k3 := cell_regrown c3
  have j3 := cell_regrown d3
  have k4 := cell_regrown c4
  have j4 := cell_regrown d4
  have k5 := cell_regrown c5
  have j5 := cell_regrown d5
  have k6 := cell_regrown c6
  have j6 := cell_regrown d6
  have k7 := cell_regrown c7
  have j7 := cell_regrown d7
  have k8 := cell_regrown c8
  have j8 := cell_regrown d8
  have k9 := cell_regrown c9
  have j9 := cell_regrown d9
  have k10 := cell_regrown c10
  have j10 := cell_regrown d10
  have k11 := cell_regrown c11
  have j11 := cell_regrown d11
  have k12 := cell_regrown c12
  have j12 := cell_regrown d12
  have k13 := cell_regrown c13
  have j13 := cell_regrown d13
  have hbR : ∀ dd os, Below w.heap.size w (grow (redrawn w1 dd) os) := fun dd os => hbw1.trans ((below_regrown w1 dd os).mono hbw1.size)
  have cLa := fun dd os => Calls.regrown_of (w := w1) (d := dd) (os := os) (hLa _)
  have cLb := fun dd os => Calls.regrown_of (w := w1) (d := dd) (os := os) (hLb _)
  have cCa := fun dd os => Calls.regrown_of (w := w1) (hCa _ (hbR dd os))
  have cCb := fun dd os => Calls.regrown_of (w := w1) (hCb _ (hbR dd os))
  clear c0 c1 c2 c3 c4 c5 c6 c7 c8 c9 c10 c11 c12 c13 d0 d1 d2 d3 d4 d5 d6 d7 d8 d9 d10 d11 d12 d13
  refine wp_region_quiet_below (by kernel_rfl) (by kernel_rfl) ?_
  repeat (quiet_step (first | (go_at_call_of 5 (Value.agg #[.string ak, .string agc, .int .i64 agp, .string ali, .string alc, .int .i64 alu, .int .i64 alk, .string afz, .int .i64 afr, .int .i64 afb, .string atz, .int .i64 atr, .int .i64 atb, .int .i64 an]); exact cLa _ _) | (go_at_call_of 5 (Value.agg #[.string bk, .string bgc, .int .i64 bgp, .string bli, .string blc, .int .i64 blu, .int .i64 blk, .string bfz, .int .i64 bfr, .int .i64 bfb, .string btz, .int .i64 btr, .int .i64 btb, .int .i64 bn]); exact cLb _ _) | (go_at_call_of 6 (Value.agg #[.string ak, .string agc, .int .i64 agp, .string ali, .string alc, .int .i64 alu, .int .i64 alk, .string afz, .int .i64 afr, .int .i64 afb, .string atz, .int .i64 atr, .int .i64 atb, .int .i64 an]); exact cCa _ _) | (go_at_call_of 6 (Value.agg #[.string bk, .string bgc, .int .i64 bgp, .string bli, .string blc, .int .i64 blu, .int .i64 blk, .string bfz, .int .i64 bfr, .int .i64 bfb, .string btz, .int .i64 btr, .int .i64 btb, .int .i64 bn]); exact cCb _ _)))
  refine wpQuiet_nil ?_
  intro _ hw'
  obtain ⟨⟨dq, osq⟩, hw''⟩ := hw'
  subst hw''
  have hbE := hbR dq osq
  have hA2 := hA1.below (below_regrown w1 dq osq)
  have hB2 := hBb1.below (below_regrown w1 dq osq)
  clear cLa cLb cCa cCb hLa hLb hCa hCb k0 j0 k1 j1 k2 j2 k3 j3 k4 j4 k5 j5 k6 j6 k7 j7 k8 j8 k9 j9 k10 j10 k11 j11 k12 j12 k13 j13 hbR hA1 hBb1 hbw1
  generalize grow (redrawn w1 dq) osq = w2 at *
  obtain ⟨c0, c1, c2, c3, c4, c5, c6, c7, c8, c9, c10, c11, c12, c13⟩ := hA2.at
  simp only at c0 c1 c2 c3 c4 c5 c6 c7 c8 c9 c10 c11 c12 c13
  go_wp2_with (first
    | (go_at_call 8; refine (hTa _ hbE).mono ?_; rintro e w3 ⟨rfl, hb3⟩; have hbw3 := hbE.trans (hb3.mono hbE.size); have hA3 := hA2.below hb3; have hB3 := hB2.below hb3)
    | (go_at_call 7; refine (hR _ hbw3).mono ?_; rintro e w4 ⟨rfl, hb4⟩; have hbw4 := hbw3.trans (hb4.mono hbw3.size); have hA4 := hA3.below hb4; have hB4 := hB3.below hb4; obtain ⟨W5, hW5⟩ : ∃ W5, W5 = w4.alloc (.cells #[.string ak, .string agc, .int .i64 agp, .string ali, .string alc, .int .i64 alu, .int .i64 alk, .string afz, .int .i64 afr, .int .i64 afb, .string atz, .int .i64 atr, .int .i64 atb, .int .i64 an] 29) := ⟨_, rfl⟩; have hal := hW5.symm; have hb5 : Below w4.heap.size w4 W5 := (by rw [hW5]; exact (Below.refl _ _).alloc (Nat.le_refl _) _); have hbw5 := hbw4.trans (hb5.mono hbw4.size); have hX5 : BlkE W5 w4.heap.size (ak, (agc, agp), (ali, alc, alu, alk), (afz, afr, afb), (atz, atr, atb), an) := (by rw [hW5]; exact BlkE.new w4 (ak, (agc, agp), (ali, alc, alu, alk), (afz, afr, afb), (atz, atr, atb), an)); have hA5 := hA4.below hb5; have hB5 := hB4.below hb5; clear hW5 hb5 hb4 hA4 hB4))
  obtain ⟨x0, x1, x2, x3, x4, x5, x6, x7, x8, x9, x10, x11, x12, x13⟩ := hX5.at
  obtain ⟨p0, p1, p2, p3, p4, p5, p6, p7, p8, p9, p10, p11, p12, p13⟩ := hA5.at
  obtain ⟨q0, q1, q2, q3, q4, q5, q6, q7, q8, q9, q10, q11, q12, q13⟩ := hB5.at
  simp only at x0 x1 x2 x3 x4 x5 x6 x7 x8 x9 x10 x11 x12 x13 p0 p1 p2 p3 p4 p5 p6 p7 p8 p9 p10 p11 p12 p13 q0 q1 q2 q3 q4 q5 q6 q7 q8 q9 q10 q11 q12 q13
  have m0 := cell_regrown x0
  have n0 := cell_regrown p0
  have o0 := cell_regrown q0
  have m1 := cell_regrown x1
  have n1 := cell_regrown p1
  have o1 := cell_regrown q1
  have m2 := cell_regrown x2
  have n2 := cell_regrown p2
  have o2 := cell_regrown q2
  have m3 := cell_regrown x3
  have n3 := cell_regrown p3
  have o3 := cell_regrown q3
  have m4 := cell_regrown x4
  have n4 := cell_regrown p4
  have o4 := cell_regrown q4
  have m5 := cell_regrown x5
  have n5 := cell_regrown p5
  have o5 := cell_regrown q5
  have m6 := cell_regrown x6
  have n6 := cell_regrown p6
  have o6 := cell_regrown q6
  have m7 := cell_regrown x7
  have n7 := cell_regrown p7
  have o7 := cell_regrown q7
  have m8 := cell_regrown x8
  have n8 := cell_regrown p8
  have o8 := cell_regrown q8
  have m9 := cell_regrown x9
  have n9 := cell_regrown p9
  have o9 := cell_regrown q9
  have m10 := cell_regrown x10
  have n10 := cell_regrown p10
  have o10 := cell_regrown q10
  have m11 := cell_regrown x11
  have n11 := cell_regrown p11
  have o11 := cell_regrown q11
  have m12 := cell_regrown x12
  have n12 := cell_regrown p12
  have o12 := cell_regrown q12
  have m13 := cell_regrown x13
  have n13 := cell_regrown p13
  have o13 := cell_regrown q13
  have hbR5 : ∀ dd os, Below w.heap.size w (grow (redrawn W5 dd) os) := fun dd os => hbw5.trans ((below_regrown W5 dd os).mono hbw5.size)
  have cTa := fun dd os => Calls.regrown_of (w := W5) (hTa _ (hbR5 dd os))
  have cTb := fun dd os => Calls.regrown_of (w := W5) (hTb _ (hbR5 dd os))
  clear x0 x1 x2 x3 x4 x5 x6 x7 x8 x9 x10 x11 x12 x13 p0 p1 p2 p3 p4 p5 p6 p7 p8 p9 p10 p11 p12 p13 q0 q1 q2 q3 q4 q5 q6 q7 q8 q9 q10 q11 q12 q13 c0 c1 c2 c3 c4 c5 c6 c7 c8 c9 c10 c11 c12 c13 hal hX5 hA5 hB5 hA3 hB3 hA2 hB2 hb3 hTa hTb hR
  refine wp_region_quiet_below (by kernel_rfl) (by kernel_rfl) ?_
  repeat (quiet_step (first | (go_at_call_of 8 (Value.agg #[.string ak, .string agc, .int .i64 agp, .string ali, .string alc, .int .i64 alu, .int .i64 alk, .string afz, .int .i64 afr, .int .i64 afb, .string atz, .int .i64 atr, .int .i64 atb, .int .i64 an]); exact cTa _ _) | (go_at_call_of 8 (Value.agg #[.string bk, .string bgc, .int .i64 bgp, .string bli, .string blc, .int .i64 blu, .int .i64 blk, .string bfz, .int .i64 bfr, .int .i64 bfb, .string btz, .int .i64 btr, .int .i64 btb, .int .i64 bn]); exact cTb _ _)))
  refine wpQuiet_nil ?_
  intro _ hw'
  obtain ⟨⟨dz, osz⟩, hw''⟩ := hw'
  subst hw''
  have hbZ := hbR5 dz osz
  go_wp2
  go_ret
  exact ⟨rfl, hbZ⟩
end Go.Proofs.YtcipbkaopnaiiacDoor
