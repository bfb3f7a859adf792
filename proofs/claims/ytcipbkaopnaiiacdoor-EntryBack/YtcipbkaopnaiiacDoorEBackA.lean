/-
  The law EntryBack answers true, whatever the entries; over every world that holds the sentinels and strconv's table of powers as the program lays them; nothing old is turned.
-/
import Derived.Test.YtcipbkaopnaiiacDoorELong
import Derived.Test.YtcipbkaopnaiiacDoorEzRead
namespace Go.Proofs.YtcipbkaopnaiiacDoor
open Go.RowKit Go.Lib Go.Sort

/-- An entry that is not too long for a law. -/
theorem short_sz {e : En} (h : longE e = false) : SzE e := by
  rcases longE_cases e with ⟨h', _⟩ | ⟨_, q1, q2, q3, q4, q5, q6⟩
  · rw [h] at h'; cases h'
  · have hm : (30 : Nat) ≤ maxLen := by decide
    exact ⟨by omega, by omega, by omega, by omega, by omega, by omega⟩
theorem entB_len {e : En} (h : entErr e = 0) : (etext e).size ≤ 200 := by
  have h0 := (entErr_own h).1
  rw [etext_ok h]
  have eb : (⟨#[32]⟩ : ByteArray).size = 1 := rfl
  rcases kind_cases e.1 with hk | hk | hk | hk | hk | hk | hk
  · rw [ownErr_goods hk] at h0
    obtain ⟨hn, n1, n2⟩ := gdErr_ok h0
    have a1 := name_short hn
    have a2 := decB_size (n := e.2.1.2) (by omega)
    have a3 : e.1.size ≤ 5 := by rw [hk]; decide
    rw [← text_goods hk]
    unfold bl
    simp only [ByteArray.size_append, eb]
    omega
  · rw [ownErr_lot hk] at h0
    have a1 := ltext_size h0
    have a3 : e.1.size ≤ 5 := by rw [hk]; decide
    rw [← text_lot hk h0]
    unfold bl
    simp only [ByteArray.size_append, eb]
    omega
  · rw [ownErr_to hk] at h0
    have hd : kd e.1 = .tow := by rcases hk with hk | hk <;> rw [hk] <;> rfl
    have ho := piece_ok h0 (by rw [hd]; nofun)
    have a1 := ho.k
    have a2 := ho.li
    have a3 := decB_size ho.n2
    have a4 := ptext_short (ho.tow rfl)
    rw [← text_to hd]
    unfold bl
    simp only [ByteArray.size_append, eb]
    omega
  · rw [ownErr_from hk] at h0
    have hd : kd e.1 = .frm := by rcases hk with hk | hk <;> rw [hk] <;> rfl
    have ho := piece_ok h0 (by rw [hd]; nofun)
    have a1 := ho.k
    have a2 := ho.li
    have a3 := decB_size ho.n2
    have a4 := ptext_short (ho.fr rfl)
    rw [← text_from hd]
    unfold bl
    simp only [ByteArray.size_append, eb]
    omega
  · rw [ownErr_move hk] at h0
    have hd : kd e.1 = .move := by rw [hk]; rfl
    have ho := piece_ok h0 (by rw [hd]; nofun)
    have a1 := ho.k
    have a2 := ho.li
    have a3 := decB_size ho.n2
    have a4 := ptext_short (ho.fr rfl)
    have a5 := ptext_short (ho.tow rfl)
    rw [← text_move hd]
    unfold bl
    simp only [ByteArray.size_append, eb]
    omega
  · rw [ownErr_hold hk] at h0
    have hd : kd e.1 = .hold := by rcases hk with hk | hk <;> rw [hk] <;> rfl
    have ho := piece_ok h0 (by rw [hd]; nofun)
    have a1 := ho.k
    have a2 := ho.li
    have a3 := decB_size ho.n2
    rw [← text_hold hd]
    unfold bl
    simp only [ByteArray.size_append, eb]
    omega
  · rw [ownErr_other hk] at h0; omega
set_option maxRecDepth 100000 in
set_option maxHeartbeats 16000000 in
theorem back_long (a b : En) (w : World) (s : Nat → Addr) (hs : Es w s) (hp : Pow w) (ha : SzE a) (hb : SzE b) (h : longE a = true ∨ longE b = true) :
    Calls Tryd.prog 3 #[agE a, agE b] w fun e w' => e = .returned (.bool true) ∧ Below w.heap.size w w' := by
  have hB0 : Below w.heap.size w (w.alloc (celE a)) := (Below.refl _ w).alloc (Nat.le_refl _) _
  have hB1 : Below (w.alloc (celE a)).heap.size (w.alloc (celE a)) ((w.alloc (celE a)).alloc (celE b)) := (Below.refl _ _).alloc (Nat.le_refl _) _
  have hB : Below w.heap.size w ((w.alloc (celE a)).alloc (celE b)) := hB0.trans (hB1.mono hB0.size)
  have hA := (BlkE.new w a).below hB1
  have hBb := BlkE.new (w.alloc (celE a)) b
  have e1 : (w.alloc (celE a)).heap.size = w.heap.size + 1 := by simp
  rw [e1] at hBb
  have hN := entered_any ((w.alloc (celE a)).alloc (celE b)) s (hs.below hB) (hp.below hB)
  have hLa := fun w1 => long_any a w1 ha
  have hLb := fun w1 => long_any b w1 hb
  generalize longE a = la at *
  generalize longE b = lb at *
  have hw2 : IntKind.i64.wrap 2 = 2 := by decide
  have hw1 : IntKind.i64.wrap 1 = 1 := by decide
  have HN : Hid (Calls Tryd.prog 4 _ _ _) := hN
  have HA : Hid (BlkE _ _ _) := hA
  have HBb : Hid (BlkE _ _ _) := hBb
  have HB : Hid (Below _ _ _) := hB
  clear hN hA hBb hB hB0 hB1 e1 ha hb hs hp
  obtain ⟨ak, ⟨agc, agp⟩, ⟨ali, alc, alu, alk⟩, ⟨afz, afr, afb⟩, ⟨atz, atr, atb⟩, an⟩ := a
  obtain ⟨bk, ⟨bgc, bgp⟩, ⟨bli, blc, blu, blk⟩, ⟨bfz, bfr, bfb⟩, ⟨btz, btr, btb⟩, bn⟩ := b
  unfold agE celE at *
  simp only at *
  rcases (by cases la <;> cases lb <;> simp at h ⊢ : (la = true ∧ lb = true) ∨ (la = true ∧ lb = false) ∨ (la = false ∧ lb = true)) with ⟨rfl, rfl⟩ | ⟨rfl, rfl⟩ | ⟨rfl, rfl⟩
  all_goals
    clear h
    simp only [if_true, if_false, Bool.false_eq_true] at hLa hLb
    go_enter Tryd.func3, Tryd.ntmps3
    go_wp2_with (go_at_call 4; refine HN.out.mono ?_; rintro e w1 ⟨rfl, hb1⟩; have hbw1 := HB.out.trans (hb1.mono HB.out.size); have hA1 := HA.out.below hb1; have hBb1 := HBb.out.below hb1; obtain ⟨c0, c1, c2, c3, c4, c5, c6, c7, c8, c9, c10, c11, c12, c13⟩ := hA1.at; obtain ⟨d0, d1, d2, d3, d4, d5, d6, d7, d8, d9, d10, d11, d12, d13⟩ := hBb1.at; simp only at c0 c1 c2 c3 c4 c5 c6 c7 c8 c9 c10 c11 c12 c13 d0 d1 d2 d3 d4 d5 d6 d7 d8 d9 d10 d11 d12 d13; clear hb1)
    clear HN HA HBb HB
    have k0 := cell_regrown c0
    have j0 := cell_regrown d0
    have k1 := cell_regrown c1
    have j1 := cell_regrown d1
    have k2 := cell_regrown c2
    have j2 := cell_regrown d2
    have k3 := cell_regrown c3
    have j3 := cell_regrown d3
    have k4 := cell_regrown c4
    have j4 := cell_regrown d4
    have k5 := cell_regrown c5
    have j5 := cell_regrown d5
    have k6 := cell_regrown c6
    have j6 := cell_regrown d6
    have k7 := cell_regrown c7
    have j7 := cell_regrown d7
    have k8 := cell_regrown c8
    have j8 := cell_regrown d8
    have k9 := cell_regrown c9
    have j9 := cell_regrown d9
    have k10 := cell_regrown c10
    have j10 := cell_regrown d10
    have k11 := cell_regrown c11
    have j11 := cell_regrown d11
    have k12 := cell_regrown c12
    have j12 := cell_regrown d12
    have k13 := cell_regrown c13
    have j13 := cell_regrown d13
    have hbR : ∀ dd os, Below w.heap.size w (grow (redrawn w1 dd) os) := fun dd os => hbw1.trans ((below_regrown w1 dd os).mono hbw1.size)
    have cLa := fun dd os => Calls.regrown_of (w := w1) (d := dd) (os := os) (hLa _)
    have cLb := fun dd os => Calls.regrown_of (w := w1) (d := dd) (os := os) (hLb _)
    clear c0 c1 c2 c3 c4 c5 c6 c7 c8 c9 c10 c11 c12 c13 d0 d1 d2 d3 d4 d5 d6 d7 d8 d9 d10 d11 d12 d13
    refine wp_region_quiet_below (by kernel_rfl) (by kernel_rfl) ?_
    repeat (quiet_step (first | (go_at_call_of 5 (Value.agg #[.string ak, .string agc, .int .i64 agp, .string ali, .string alc, .int .i64 alu, .int .i64 alk, .string afz, .int .i64 afr, .int .i64 afb, .string atz, .int .i64 atr, .int .i64 atb, .int .i64 an]); exact cLa _ _) | (go_at_call_of 5 (Value.agg #[.string bk, .string bgc, .int .i64 bgp, .string bli, .string blc, .int .i64 blu, .int .i64 blk, .string bfz, .int .i64 bfr, .int .i64 bfb, .string btz, .int .i64 btr, .int .i64 btb, .int .i64 bn]); exact cLb _ _)))
    refine wpQuiet_nil ?_
    intro _ hw'
    obtain ⟨⟨dq, osq⟩, hw''⟩ := hw'
    subst hw''
    have hbE := hbR dq osq
    go_wp2
    go_ret
    exact ⟨rfl, hbE⟩
set_option maxRecDepth 100000 in
set_option maxHeartbeats 16000000 in
theorem back_a (a b : En) (w : World) (s : Nat → Addr) (hs : Es w s) (hp : Pow w) (ha : SzE a) (hb : SzE b) (hla : longE a = false) (hlb : longE b = false) (h : entErr a ≠ 0) :
    Calls Tryd.prog 3 #[agE a, agE b] w fun e w' => e = .returned (.bool true) ∧ Below w.heap.size w w' := by
  have hB0 : Below w.heap.size w (w.alloc (celE a)) := (Below.refl _ w).alloc (Nat.le_refl _) _
  have hB1 : Below (w.alloc (celE a)).heap.size (w.alloc (celE a)) ((w.alloc (celE a)).alloc (celE b)) := (Below.refl _ _).alloc (Nat.le_refl _) _
  have hB : Below w.heap.size w ((w.alloc (celE a)).alloc (celE b)) := hB0.trans (hB1.mono hB0.size)
  have hA := (BlkE.new w a).below hB1
  have hBb := BlkE.new (w.alloc (celE a)) b
  have e1 : (w.alloc (celE a)).heap.size = w.heap.size + 1 := by simp
  rw [e1] at hBb
  have hN := entered_any ((w.alloc (celE a)).alloc (celE b)) s (hs.below hB) (hp.below hB)
  have hLa := fun w1 => long_any a w1 ha
  have hLb := fun w1 => long_any b w1 hb
  have hCa := fun w1 (hb' : Below w.heap.size w w1) => echeck_any a w1 s ha (hs.below hb')
  have hCb := fun w1 (hb' : Below w.heap.size w w1) => echeck_any b w1 s hb (hs.below hb')
  rw [hla, if_neg (by decide)] at hLa
  rw [hlb, if_neg (by decide)] at hLb
  rw [errP_pos s h] at hCa
  generalize s (entErr a - 1) = ad at *
  generalize errP s (entErr b) = VB at *
  clear h hla hlb
  have HN : Hid (Calls Tryd.prog 4 _ _ _) := hN
  have HA : Hid (BlkE _ _ _) := hA
  have HBb : Hid (BlkE _ _ _) := hBb
  have HB : Hid (Below _ _ _) := hB
  clear hN hA hBb hB hB0 hB1 e1 ha hb hs hp
  obtain ⟨ak, ⟨agc, agp⟩, ⟨ali, alc, alu, alk⟩, ⟨afz, afr, afb⟩, ⟨atz, atr, atb⟩, an⟩ := a
  obtain ⟨bk, ⟨bgc, bgp⟩, ⟨bli, blc, blu, blk⟩, ⟨bfz, bfr, bfb⟩, ⟨btz, btr, btb⟩, bn⟩ := b
  unfold agE celE at *
  simp only at *
  go_enter Tryd.func3, Tryd.ntmps3
  go_wp2_with (go_at_call 4; refine HN.out.mono ?_; rintro e w1 ⟨rfl, hb1⟩; have hbw1 := HB.out.trans (hb1.mono HB.out.size); have hA1 := HA.out.below hb1; have hBb1 := HBb.out.below hb1; obtain ⟨c0, c1, c2, c3, c4, c5, c6, c7, c8, c9, c10, c11, c12, c13⟩ := hA1.at; obtain ⟨d0, d1, d2, d3, d4, d5, d6, d7, d8, d9, d10, d11, d12, d13⟩ := hBb1.at; simp only at c0 c1 c2 c3 c4 c5 c6 c7 c8 c9 c10 c11 c12 c13 d0 d1 d2 d3 d4 d5 d6 d7 d8 d9 d10 d11 d12 d13; clear hb1)
  clear HN HA HBb HB
  have k0 := cell_regrown c0
  have j0 := cell_regrown d0
  have k1 := cell_regrown c1
  have j1 := cell_regrown d1
  have k2 := cell_regrown c2
  have j2 := cell_regrown d2
  have k3 := cell_regrown c3
  have j3 := cell_regrown d3
  have k4 := cell_regrown c4
  have j4 := cell_regrown d4
  have k5 := cell_regrown c5
  have j5 := cell_regrown d5
  have k6 := cell_regrown c6
  have j6 := cell_regrown d6
  have k7 := cell_regrown c7
  have j7 := cell_regrown d7
  have k8 := cell_regrown c8
  have j8 := cell_regrown d8
  have k9 := cell_regrown c9
  have j9 := cell_regrown d9
  have k10 := cell_regrown c10
  have j10 := cell_regrown d10
  have k11 := cell_regrown c11
  have j11 := cell_regrown d11
  have k12 := cell_regrown c12
  have j12 := cell_regrown d12
  have k13 := cell_regrown c13
  have j13 := cell_regrown d13
  have hbR : ∀ dd os, Below w.heap.size w (grow (redrawn w1 dd) os) := fun dd os => hbw1.trans ((below_regrown w1 dd os).mono hbw1.size)
  have cLa := fun dd os => Calls.regrown_of (w := w1) (d := dd) (os := os) (hLa _)
  have cLb := fun dd os => Calls.regrown_of (w := w1) (d := dd) (os := os) (hLb _)
  have cCa := fun dd os => Calls.regrown_of (w := w1) (hCa _ (hbR dd os))
  have cCb := fun dd os => Calls.regrown_of (w := w1) (hCb _ (hbR dd os))
  clear c0 c1 c2 c3 c4 c5 c6 c7 c8 c9 c10 c11 c12 c13 d0 d1 d2 d3 d4 d5 d6 d7 d8 d9 d10 d11 d12 d13
  refine wp_region_quiet_below (by kernel_rfl) (by kernel_rfl) ?_
  repeat (quiet_step (first | (go_at_call_of 5 (Value.agg #[.string ak, .string agc, .int .i64 agp, .string ali, .string alc, .int .i64 alu, .int .i64 alk, .string afz, .int .i64 afr, .int .i64 afb, .string atz, .int .i64 atr, .int .i64 atb, .int .i64 an]); exact cLa _ _) | (go_at_call_of 5 (Value.agg #[.string bk, .string bgc, .int .i64 bgp, .string bli, .string blc, .int .i64 blu, .int .i64 blk, .string bfz, .int .i64 bfr, .int .i64 bfb, .string btz, .int .i64 btr, .int .i64 btb, .int .i64 bn]); exact cLb _ _) | (go_at_call_of 6 (Value.agg #[.string ak, .string agc, .int .i64 agp, .string ali, .string alc, .int .i64 alu, .int .i64 alk, .string afz, .int .i64 afr, .int .i64 afb, .string atz, .int .i64 atr, .int .i64 atb, .int .i64 an]); exact cCa _ _) | (go_at_call_of 6 (Value.agg #[.string bk, .string bgc, .int .i64 bgp, .string bli, .string blc, .int .i64 blu, .int .i64 blk, .string bfz, .int .i64 bfr, .int .i64 bfb, .string btz, .int .i64 btr, .int .i64 btb, .int .i64 bn]); exact cCb _ _)))
  refine wpQuiet_nil ?_
  intro _ hw'
  obtain ⟨⟨dq, osq⟩, hw''⟩ := hw'
  subst hw''
  have hbE := hbR dq osq
  go_wp2
  go_ret
  exact ⟨rfl, hbE⟩
set_option maxRecDepth 100000 in
set_option maxHeartbeats 16000000 in
theorem back_b (a b : En) (w : World) (s : Nat → Addr) (hs : Es w s) (hp : Pow w) (ha : SzE a) (hb : SzE b) (hla : longE a = false) (hlb : longE b = false) (h : entErr a = 0) (h1 : entErr b ≠ 0) :
    Calls Tryd.prog 3 #[agE a, agE b] w fun e w' => e = .returned (.bool true) ∧ Below w.heap.size w w' := by
  have hB0 : Below w.heap.size w (w.alloc (celE a)) := (Below.refl _ w).alloc (Nat.le_refl _) _
  have hB1 : Below (w.alloc (celE a)).heap.size (w.alloc (celE a)) ((w.alloc (celE a)).alloc (celE b)) := (Below.refl _ _).alloc (Nat.le_refl _) _
  have hB : Below w.heap.size w ((w.alloc (celE a)).alloc (celE b)) := hB0.trans (hB1.mono hB0.size)
  have hA := (BlkE.new w a).below hB1
  have hBb := BlkE.new (w.alloc (celE a)) b
  have e1 : (w.alloc (celE a)).heap.size = w.heap.size + 1 := by simp
  rw [e1] at hBb
  have hN := entered_any ((w.alloc (celE a)).alloc (celE b)) s (hs.below hB) (hp.below hB)
  have hLa := fun w1 => long_any a w1 ha
  have hLb := fun w1 => long_any b w1 hb
  have hCa := fun w1 (hb' : Below w.heap.size w w1) => echeck_any a w1 s ha (hs.below hb')
  have hCb := fun w1 (hb' : Below w.heap.size w w1) => echeck_any b w1 s hb (hs.below hb')
  rw [hla, if_neg (by decide)] at hLa
  rw [hlb, if_neg (by decide)] at hLb
  rw [h, errP_zero] at hCa
  rw [errP_pos s h1] at hCb
  generalize s (entErr b - 1) = ad at *
  clear h h1 hla hlb
  have HN : Hid (Calls Tryd.prog 4 _ _ _) := hN
  have HA : Hid (BlkE _ _ _) := hA
  have HBb : Hid (BlkE _ _ _) := hBb
  have HB : Hid (Below _ _ _) := hB
  clear hN hA hBb hB hB0 hB1 e1 ha hb hs hp
  obtain ⟨ak, ⟨agc, agp⟩, ⟨ali, alc, alu, alk⟩, ⟨afz, afr, afb⟩, ⟨atz, atr, atb⟩, an⟩ := a
  obtain ⟨bk, ⟨bgc, bgp⟩, ⟨bli, blc, blu, blk⟩, ⟨bfz, bfr, bfb⟩, ⟨btz, btr, btb⟩, bn⟩ := b
  unfold agE celE at *
  simp only at *
  go_enter Tryd.func3, Tryd.ntmps3
  go_wp2_with (go_at_call 4; refine HN.out.mono ?_; rintro e w1 ⟨rfl, hb1⟩; have hbw1 := HB.out.trans (hb1.mono HB.out.size); have hA1 := HA.out.below hb1; have hBb1 := HBb.out.below hb1; obtain ⟨c0, c1, c2, c3, c4, c5, c6, c7, c8, c9, c10, c11, c12, c13⟩ := hA1.at; obtain ⟨d0, d1, d2, d3, d4, d5, d6, d7, d8, d9, d10, d11, d12, d13⟩ := hBb1.at; simp only at c0 c1 c2 c3 c4 c5 c6 c7 c8 c9 c10 c11 c12 c13 d0 d1 d2 d3 d4 d5 d6 d7 d8 d9 d10 d11 d12 d13; clear hb1)
  clear HN HA HBb HB
  have k0 := cell_regrown c0
  have j0 := cell_regrown d0
  have k1 := cell_regrown c1
  have j1 := cell_regrown d1
  have k2 := cell_regrown c2
  have j2 := cell_regrown d2
  have k3 := cell_regrown c3
  have j3 := cell_regrown d3
  have k4 := cell_regrown c4
  have j4 := cell_regrown d4
  have k5 := cell_regrown c5
  have j5 := cell_regrown d5
  have k6 := cell_regrown c6
  have j6 := cell_regrown d6
  have k7 := cell_regrown c7
  have j7 := cell_regrown d7
  have k8 := cell_regrown c8
  have j8 := cell_regrown d8
  have k9 := cell_regrown c9
  have j9 := cell_regrown d9
  have k10 := cell_regrown c10
  have j10 := cell_regrown d10
  have k11 := cell_regrown c11
  have j11 := cell_regrown d11
  have k12 := cell_regrown c12
  have j12 := cell_regrown d12
  have k13 := cell_regrown c13
  have j13 := cell_regrown d13
  have hbR : ∀ dd os, Below w.heap.size w (grow (redrawn w1 dd) os) := fun dd os => hbw1.trans ((below_regrown w1 dd os).mono hbw1.size)
  have cLa := fun dd os => Calls.regrown_of (w := w1) (d := dd) (os := os) (hLa _)
  have cLb := fun dd os => Calls.regrown_of (w := w1) (d := dd) (os := os) (hLb _)
  have cCa := fun dd os => Calls.regrown_of (w := w1) (hCa _ (hbR dd os))
  have cCb := fun dd os => Calls.regrown_of (w := w1) (hCb _ (hbR dd os))
  clear c0 c1 c2 c3 c4 c5 c6 c7 c8 c9 c10 c11 c12 c13 d0 d1 d2 d3 d4 d5 d6 d7 d8 d9 d10 d11 d12 d13
  refine wp_region_quiet_below (by kernel_rfl) (by kernel_rfl) ?_
  repeat (quiet_step (first | (go_at_call_of 5 (Value.agg #[.string ak, .string agc, .int .i64 agp, .string ali, .string alc, .int .i64 alu, .int .i64 alk, .string afz, .int .i64 afr, .int .i64 afb, .string atz, .int .i64 atr, .int .i64 atb, .int .i64 an]); exact cLa _ _) | (go_at_call_of 5 (Value.agg #[.string bk, .string bgc, .int .i64 bgp, .string bli, .string blc, .int .i64 blu, .int .i64 blk, .string bfz, .int .i64 bfr, .int .i64 bfb, .string btz, .int .i64 btr, .int .i64 btb, .int .i64 bn]); exact cLb _ _) | (go_at_call_of 6 (Value.agg #[.string ak, .string agc, .int .i64 agp, .string ali, .string alc, .int .i64 alu, .int .i64 alk, .string afz, .int .i64 afr, .int .i64 afb, .string atz, .int .i64 atr, .int .i64 atb, .int .i64 an]); exact cCa _ _) | (go_at_call_of 6 (Value.agg #[.string bk, .string bgc, .int .i64 bgp, .string bli, .string blc, .int .i64 blu, .int .i64 blk, .string bfz, .int .i64 bfr, .int .i64 bfb, .string btz, .int .i64 btr, .int .i64 btb, .int .i64 bn]); exact cCb _ _)))
  refine wpQuiet_nil ?_
  intro _ hw'
  obtain ⟨⟨dq, osq⟩, hw''⟩ := hw'
  subst hw''
  have hbE := hbR dq osq
  go_wp2
  go_ret
  exact ⟨rfl, hbE⟩
end Go.Proofs.YtcipbkaopnaiiacDoor
