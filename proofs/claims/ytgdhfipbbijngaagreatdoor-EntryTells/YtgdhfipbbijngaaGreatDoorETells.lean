/-
  The law EntryTells answers true, whatever the entry and the text; over every world that holds the sentinels, errors.errorType and strconv's table of powers as the program lays them; nothing old is turned.
-/
import Derived.Test.YtgdhfipbbijngaaGreatDoorTRead
import Derived.Test.YtgdhfipbbijngaaGreatDoorTText
import Derived.Test.YtgdhfipbbijngaaGreatDoorELong
import Derived.Test.YtgdhfipbbijngaaGreatDoorBzA
namespace Go.Proofs.YtgdhfipbbijngaaGreatDoor
open Go.RowKit Go.Lib Go.Sort

set_option maxRecDepth 100000 in
set_option maxHeartbeats 4000000 in
theorem tells_long (e : En) (z : ByteArray) (w : World) (s : Nat → Addr) (hs : Sent w s) (hp : Pow w) (hsz : SzE e) (hl : longE e = true) :
    Calls Tryz.prog 3 #[agE e, .string z] w fun r w' => r = .returned (.bool true) ∧ Below w.heap.size w w' := by
  have hB : Below w.heap.size w (w.alloc (celE e)) := (Below.refl _ w).alloc (Nat.le_refl _) _
  have hA := BlkE.new w e
  have hN := entered_any (w.alloc (celE e)) s (hs.es.below hB) (hp.below hB)
  have hL := fun w1 => long_any e w1 hsz
  rw [hl, if_pos rfl] at hL
  clear hl hs hp hsz
  obtain ⟨ak, ⟨agc, agp⟩, ⟨ali, alc, alu, alk⟩, ⟨afz, afr, afb⟩, ⟨atz, atr, atb⟩, an⟩ := e
  unfold agE celE at *
  simp only at *
  have HN : Hid (Calls Tryz.prog 4 _ _ _) := hN
  have HA : Hid (BlkE _ _ _) := hA
  have HB : Hid (Below _ _ _) := hB
  clear hN hA hB
  go_enter Tryz.func3, Tryz.ntmps3
  go_wp2_with (first
    | (go_at_call 4; refine HN.out.mono ?_; rintro r w1 ⟨rfl, hb1⟩; have hbw1 := HB.out.trans (hb1.mono HB.out.size); have hA1 := HA.out.below hb1; obtain ⟨c0, c1, c2, c3, c4, c5, c6, c7, c8, c9, c10, c11, c12, c13⟩ := hA1.at; simp only at c0 c1 c2 c3 c4 c5 c6 c7 c8 c9 c10 c11 c12 c13; have HA1 : Hid (BlkE _ _ _) := hA1; clear hb1 hA1)
    | (go_at_call 5; refine (hL _).mono ?_; rintro r w2 ⟨rfl, hb2⟩; have hbw2 := hbw1.trans (hb2.mono hbw1.size)))
  go_ret
  exact ⟨rfl, hbw2⟩
set_option maxRecDepth 100000 in
set_option maxHeartbeats 4000000 in
theorem tells_text (e : En) (z : ByteArray) (w : World) (s : Nat → Addr) (hs : Sent w s) (hp : Pow w) (hsz : SzE e) (hl : longE e = false) (hz : 100 < z.size) (hm : z.size ≤ maxLen) :
    Calls Tryz.prog 3 #[agE e, .string z] w fun r w' => r = .returned (.bool true) ∧ Below w.heap.size w w' := by
  have hB : Below w.heap.size w (w.alloc (celE e)) := (Below.refl _ w).alloc (Nat.le_refl _) _
  have hA := BlkE.new w e
  have hN := entered_any (w.alloc (celE e)) s (hs.es.below hB) (hp.below hB)
  have hL := fun w1 => long_any e w1 hsz
  rw [hl, if_neg (by decide)] at hL
  unfold maxLen at hm
  have hz1 : (100 : Int) < (z.size : Int) := by omega
  clear hl hs hp hsz
  obtain ⟨ak, ⟨agc, agp⟩, ⟨ali, alc, alu, alk⟩, ⟨afz, afr, afb⟩, ⟨atz, atr, atb⟩, an⟩ := e
  unfold agE celE at *
  simp only at *
  have HN : Hid (Calls Tryz.prog 4 _ _ _) := hN
  have HA : Hid (BlkE _ _ _) := hA
  have HB : Hid (Below _ _ _) := hB
  clear hN hA hB
  go_enter Tryz.func3, Tryz.ntmps3
  go_wp2_with (first
    | (go_at_call 4; refine HN.out.mono ?_; rintro r w1 ⟨rfl, hb1⟩; have hbw1 := HB.out.trans (hb1.mono HB.out.size); have hA1 := HA.out.below hb1; obtain ⟨c0, c1, c2, c3, c4, c5, c6, c7, c8, c9, c10, c11, c12, c13⟩ := hA1.at; simp only at c0 c1 c2 c3 c4 c5 c6 c7 c8 c9 c10 c11 c12 c13; have HA1 : Hid (BlkE _ _ _) := hA1; clear hb1 hA1)
    | (go_at_call 5; refine (hL _).mono ?_; rintro r w2 ⟨rfl, hb2⟩; have hbw2 := hbw1.trans (hb2.mono hbw1.size)))
  go_ret
  exact ⟨rfl, hbw2⟩
set_option maxRecDepth 100000 in
set_option maxHeartbeats 16000000 in
theorem tells_in (e : En) (z : ByteArray) (w : World) (s : Nat → Addr) (hs : Sent w s) (hh : Handle w) (hp : Pow w) (hsz : SzE e) (hl : longE e = false) (hz : z.size ≤ 100) :
    Calls Tryz.prog 3 #[agE e, .string z] w fun r w' => r = .returned (.bool true) ∧ Below w.heap.size w w' := by
  have hB : Below w.heap.size w (w.alloc (celE e)) := (Below.refl _ w).alloc (Nat.le_refl _) _
  have hA := BlkE.new w e
  have hN := entered_any (w.alloc (celE e)) s (hs.es.below hB) (hp.below hB)
  have hL := fun w1 => long_any e w1 hsz
  rw [hl, if_neg (by decide)] at hL
  have hR := fun w1 (hb : Below w.heap.size w w1) => eread_any z w1 s (by omega) (hs.es.below hb)
  have hT := fun w1 => tread_any z w1 (by omega)
  have hCR := fun w1 (hb : Below w.heap.size w w1) => codedP_any s (readE z.data.toList).2 (readE_le _) ((readE z.data.toList).2 : Int) w1 (hs.below hb) (hh.below hb)
  have hCh := fun w1 (hb : Below w.heap.size w w1) => echeck_any e w1 s hsz (hs.es.below hb)
  have hPE := fun w1 => terr_any e w1 hsz
  have hCC := fun w1 (hb : Below w.heap.size w w1) => codedP_any s (entErr e) (entErr_le _) (entErr e : Int) w1 (hs.below hb) (hh.below hb)
  have hTx := fun w1 (hb : Below w.heap.size w w1) => etext_any e w1 s hsz (hs.es.below hb) (hp.below hb)
  have hPT := fun w1 => ttext_any e w1 hsz
  have hQ := fun W => eqE_run (readE z.data.toList).1 (readE z.data.toList).1 W
  rw [sameE_iff.2 rfl] at hQ
  have hG := Tryz.guardE
  simp only [decide_true] at hCR hCC
  generalize (readE z.data.toList).1 = P at *
  generalize ((readE z.data.toList).2 : Int) = rc at *
  generalize errP s (readE z.data.toList).2 = er at *
  generalize (entErr e : Int) = pc at *
  generalize errP s (entErr e) = ep at *
  generalize etext e = tx at *
  have hz1 : ¬ (100 : Int) < (z.size : Int) := by omega
  clear hl hs hh hp hsz
  obtain ⟨ak, ⟨agc, agp⟩, ⟨ali, alc, alu, alk⟩, ⟨afz, afr, afb⟩, ⟨atz, atr, atb⟩, an⟩ := e
  obtain ⟨bk, ⟨bgc, bgp⟩, ⟨bli, blc, blu, blk⟩, ⟨bfz, bfr, bfb⟩, ⟨btz, btr, btb⟩, bn⟩ := P
  unfold agE celE at *
  simp only at *
  have HN : Hid (Calls Tryz.prog 4 _ _ _) := hN
  have HA : Hid (BlkE _ _ _) := hA
  have HB : Hid (Below _ _ _) := hB
  have HR : Hid (∀ w1, _ → Calls Tryz.prog 6 _ _ _) := hR
  have HT : Hid (∀ w1, Calls Tryz.prog 7 _ _ _) := hT
  have HCR : Hid (∀ w1, _ → Calls Tryz.prog 8 _ _ _) := hCR
  have HCh : Hid (∀ w1, _ → Calls Tryz.prog 9 _ _ _) := hCh
  have HPE : Hid (∀ w1, Calls Tryz.prog 10 _ _ _) := hPE
  have HCC : Hid (∀ w1, _ → Calls Tryz.prog 8 _ _ _) := hCC
  have HTx : Hid (∀ w1, _ → Calls Tryz.prog 11 _ _ _) := hTx
  have HPT : Hid (∀ w1, Calls Tryz.prog 12 _ _ _) := hPT
  clear hN hA hB hR hT hCR hCh hPE hCC hTx hPT
  go_enter Tryz.func3, Tryz.ntmps3
  go_wp2_with (first
    | (go_at_call 4; refine HN.out.mono ?_; rintro r w1 ⟨rfl, hb1⟩; have hbw1 := HB.out.trans (hb1.mono HB.out.size); have hA1 := HA.out.below hb1; obtain ⟨c0, c1, c2, c3, c4, c5, c6, c7, c8, c9, c10, c11, c12, c13⟩ := hA1.at; simp only at c0 c1 c2 c3 c4 c5 c6 c7 c8 c9 c10 c11 c12 c13; have HA1 : Hid (BlkE _ _ _) := hA1; clear hb1 hA1)
    | (go_at_call 5; refine (hL _).mono ?_; rintro r w2 ⟨rfl, hb2⟩; have hbw2 := hbw1.trans (hb2.mono hbw1.size); have HA2 : Hid (BlkE _ _ _) := HA1.out.below hb2; clear c0 c1 c2 c3 c4 c5 c6 c7 c8 c9 c10 c11 c12 c13 hb2)
    | (go_at_call 6; refine (HR.out _ hbw2).mono ?_; rintro r w3 ⟨rfl, hb3⟩; have hbw3 := hbw2.trans (hb3.mono hbw2.size); have hA3 := HA2.out.below hb3; obtain ⟨W4, hW4⟩ : ∃ W4, W4 = w3.alloc (.cells #[.string bk, .string bgc, .int .i64 bgp, .string bli, .string blc, .int .i64 blu, .int .i64 blk, .string bfz, .int .i64 bfr, .int .i64 bfb, .string btz, .int .i64 btr, .int .i64 btb, .int .i64 bn] 29) := ⟨_, rfl⟩; have halW4 := hW4.symm; have hbW4 : Below w3.heap.size w3 W4 := (by rw [hW4]; exact (Below.refl _ _).alloc (Nat.le_refl _) _); have hXW4 : BlkE W4 w3.heap.size (bk, (bgc, bgp), (bli, blc, blu, blk), (bfz, bfr, bfb), (btz, btr, btb), bn) := (by rw [hW4]; exact BlkE.new w3 (bk, (bgc, bgp), (bli, blc, blu, blk), (bfz, bfr, bfb), (btz, btr, btb), bn)); have hbw4 := hbw3.trans (hbW4.mono hbw3.size); have HA4 : Hid (BlkE _ _ _) := hA3.below hbW4; have HX4 : Hid (BlkE _ _ _) := hXW4; clear hW4 hbW4 hXW4 hA3 hb3)
    | (go_at_call 7; refine (HT.out _).mono ?_; rintro r w5 ⟨rfl, hb5⟩; have hbw5 := hbw4.trans (hb5.mono hbw4.size); have hA5 := HA4.out.below hb5; have hX5 := HX4.out.below hb5; obtain ⟨W6, hW6⟩ : ∃ W6, W6 = w5.alloc (.cells #[.string bk, .string bgc, .int .i64 bgp, .string bli, .string blc, .int .i64 blu, .int .i64 blk, .string bfz, .int .i64 bfr, .int .i64 bfb, .string btz, .int .i64 btr, .int .i64 btb, .int .i64 bn] 29) := ⟨_, rfl⟩; have halW6 := hW6.symm; have hbW6 : Below w5.heap.size w5 W6 := (by rw [hW6]; exact (Below.refl _ _).alloc (Nat.le_refl _) _); have hXW6 : BlkE W6 w5.heap.size (bk, (bgc, bgp), (bli, blc, blu, blk), (bfz, bfr, bfb), (btz, btr, btb), bn) := (by rw [hW6]; exact BlkE.new w5 (bk, (bgc, bgp), (bli, blc, blu, blk), (bfz, bfr, bfb), (btz, btr, btb), bn)); have hbw6 := hbw5.trans (hbW6.mono hbw5.size); have HA6 : Hid (BlkE _ _ _) := hA5.below hbW6; have HX6 : Hid (BlkE _ _ _) := hX5.below hbW6; have HY6 : Hid (BlkE _ _ _) := hXW6; clear hW6 hbW6 hXW6 hA5 hX5 hb5))
  obtain ⟨x0, x1, x2, x3, x4, x5, x6, x7, x8, x9, x10, x11, x12, x13⟩ := HA6.out.at
  obtain ⟨p0, p1, p2, p3, p4, p5, p6, p7, p8, p9, p10, p11, p12, p13⟩ := HX6.out.at
  obtain ⟨q0, q1, q2, q3, q4, q5, q6, q7, q8, q9, q10, q11, q12, q13⟩ := HY6.out.at
  simp only at x0 x1 x2 x3 x4 x5 x6 x7 x8 x9 x10 x11 x12 x13 p0 p1 p2 p3 p4 p5 p6 p7 p8 p9 p10 p11 p12 p13 q0 q1 q2 q3 q4 q5 q6 q7 q8 q9 q10 q11 q12 q13
  have m0 := cell_regrown x0
  have n0 := cell_regrown p0
  have o0 := cell_regrown q0
  have m1 := cell_regrown x1
  have n1 := cell_regrown p1
  have o1 := cell_regrown q1
  have m2 := cell_regrown x2
  have n2 := cell_regrown p2
  have o2 := cell_regrown q2
  have m3 := cell_regrown x3
  have n3 := cell_regrown p3
  have o3 := cell_regrown q3
  have m4 := cell_regrown x4
  have n4 := cell_regrown p4
  have o4 := cell_regrown q4
  have m5 := cell_regrown x5
  have n5 := cell_regrown p5
  have o5 := cell_regrown q5
  have m6 := cell_regrown x6
  have n6 := cell_regrown p6
  have o6 := cell_regrown q6
  have m7 := cell_regrown x7
  have n7 := cell_regrown p7
  have o7 := cell_regrown q7
  have m8 := cell_regrown x8
  have n8 := cell_regrown p8
  have o8 := cell_regrown q8
  have m9 := cell_regrown x9
  have n9 := cell_regrown p9
  have o9 := cell_regrown q9
  have m10 := cell_regrown x10
  have n10 := cell_regrown p10
  have o10 := cell_regrown q10
  have m11 := cell_regrown x11
  have n11 := cell_regrown p11
  have o11 := cell_regrown q11
  have m12 := cell_regrown x12
  have n12 := cell_regrown p12
  have o12 := cell_regrown q12
  have m13 := cell_regrown x13
  have n13 := cell_regrown p13
  have o13 := cell_regrown q13
  have hbR : ∀ dd os, Below w.heap.size w (grow (redrawn W6 dd) os) := fun dd os => hbw6.trans ((below_regrown W6 dd os).mono hbw6.size)
  have cCh := fun dd os => Calls.regrown_of (w := W6) (HCh.out _ (hbR dd os))
  have cPE := fun dd os => Calls.regrown_of (w := W6) (d := dd) (os := os) (HPE.out _)
  have cCC := fun dd os => Calls.regrown_of (w := W6) (HCC.out _ (hbR dd os))
  have cTx := fun dd os => Calls.regrown_of (w := W6) (HTx.out _ (hbR dd os))
  have cPT := fun dd os => Calls.regrown_of (w := W6) (d := dd) (os := os) (HPT.out _)
  have cCR := fun dd os => Calls.regrown_of (w := W6) (HCR.out _ (hbR dd os))
  clear x0 x1 x2 x3 x4 x5 x6 x7 x8 x9 x10 x11 x12 x13 p0 p1 p2 p3 p4 p5 p6 p7 p8 p9 p10 p11 p12 p13 q0 q1 q2 q3 q4 q5 q6 q7 q8 q9 q10 q11 q12 q13 HA1 HA2 HA4 HX4 HA6 HX6 HY6 halW4 halW6 HN HA HB HR HT HCR HCh HPE HCC HTx HPT hL hbw1 hbw2 hbw3 hbw4 hbw5
  generalize w3.heap.size = m3 at *
  generalize w5.heap.size = m5 at *
  refine wp_region_quiet_below (by kernel_rfl) (by kernel_rfl) ?_
  repeat (quiet_step (first | (go_at_call 9; exact cCh _ _) | (go_at_call 10; exact cPE _ _) | (go_at_call_of 8 ep; exact cCC _ _) | (go_at_call 11; exact cTx _ _) | (go_at_call 12; exact cPT _ _) | (go_at_call_of 8 er; exact cCR _ _)))
  refine wpQuiet_nil ?_
  intro _ hw'
  obtain ⟨⟨dz, osz⟩, hw''⟩ := hw'
  subst hw''
  have hbZ := hbR dz osz
  go_wp2
  go_ret
  exact ⟨rfl, hbZ⟩
/-- EntryTells. -/
theorem etells_any (e : En) (z : ByteArray) (w : World) (s : Nat → Addr) (hs : Sent w s) (hh : Handle w) (hp : Pow w) (hsz : SzE e) (hm : z.size ≤ maxLen) :
    Calls Tryz.prog 3 #[agE e, .string z] w fun r w' => r = .returned (.bool true) ∧ Below w.heap.size w w' := by
  cases hl : longE e with
  | true => exact tells_long e z w s hs hp hsz hl
  | false =>
    by_cases hz : z.size ≤ 100
    · exact tells_in e z w s hs hh hp hsz hl hz
    · exact tells_text e z w s hs hp hsz hl (by omega) hm
end Go.Proofs.YtgdhfipbbijngaaGreatDoor
