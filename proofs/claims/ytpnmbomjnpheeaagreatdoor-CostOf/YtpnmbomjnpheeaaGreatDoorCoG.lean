/-
 What cost's do answers of an entry: what went cost, an error; the book behind it, the layers behind it.
-/
import Derived.Test.YtpnmbomjnpheeaaGreatDoorCoF
import Derived.BigQuiet
set_option maxRecDepth 100000
set_option maxHeartbeats 16000000
namespace Go.Proofs.YtpnmbomjnpheeaaGreatDoor
open Go.RowKit Go.Lib Go.Sort
def CdoK (w0 : World) (x : Bl) (px : Nat) (b : Bk) (m : List Ly) (e : En) (code : ByteArray) (s : Nat → Addr) (r : Ending) (w' : World) : Prop := r = .returned (.tuple #[.int .i64 (stepK b m e code).2.1, errP s (stepK b m e code).2.2]) ∧ Kb w0 x px (doB b e).1 (stepK b m e code).1 w'
theorem cdo_err (w0 w : World) (s : Nat → Addr) (x : Bl) (px : Nat) (b : Bk) (m : List Ly) (e : En) (code : ByteArray) (h : Kb w0 x px b m w) (hz : SzE e) (hs : Bs w0 s) (hE : (doB b e).2 ≠ 0) :
  Calls Tryz.prog 16 #[ptrK px, .pointer (some ⟨x.p, 0, none⟩), agE e, .string code] w (CdoK w0 x px b m e code s) := by
 have e9 : stepK b m e code = (m, 0, (doB b e).2) := by unfold stepK; rw [if_neg hE]
 unfold CdoK
 rw [e9]
 have hb0 : Below w.heap.size w (w.alloc (celE e)) := (Below.refl _ w).alloc (Nat.le_refl _) _
 have hE0 := (BlkE.new w e).at
 obtain ⟨W0, hW0⟩ : ∃ W0, w.alloc (celE e) = W0 := ⟨_, rfl⟩
 rw [hW0] at hb0 hE0
 have HD : Hid (Calls Tryz.prog 34 _ W0 _) := (h.on hb0).do_ hz (hs.below (h.on hb0).B)
 rw [errP_pos s hE] at HD ⊢
 generalize s ((doB b e).2 - 1) = ad at *
 generalize (doB b e).1 = b2 at *
 clear h hz hs hE e9 hb0
 obtain ⟨s0, s1, s2, s3, s4, s5, s6, s7, s8, s9, s10, s11, s12, s13⟩ := hE0
 obtain ⟨ak, ⟨agc, agp⟩, ⟨ali, alc, alu, alk⟩, ⟨afz, afr, afb⟩, ⟨atz, atr, atb⟩, an⟩ := e
 unfold agE celE at *
 simp only at hW0 HD s0 s1 s2 s3 s4 s5 s6 s7 s8 s9 s10 s11 s12 s13 ⊢
 go_enter Tryz.func16, Tryz.ntmps16
 go_wp2_with (go_at_call 34; refine HD.out.mono ?_; rintro r w1 ⟨rfl, hk1, _⟩; have HK1 : Hid (Kb _ _ _ _ _ _) := hk1; clear hk1)
 go_ret2
 exact ⟨rfl, HK1.out⟩
theorem cdo_far (w0 w : World) (s : Nat → Addr) (x : Bl) (px : Nat) (b : Bk) (m : List Ly) (e : En) (code : ByteArray) (h : Kb w0 x px b m w) (hz : SzE e) (hs : Bs w0 s) (hcs : Cs w0 s) (hE : (doB b e).2 = 0) (hc : (lotAt (doB b e).1 e.2.2.1.1).2.1 ≠ code) :
  Calls Tryz.prog 16 #[ptrK px, .pointer (some ⟨x.p, 0, none⟩), agE e, .string code] w (CdoK w0 x px b m e code s) := by
 have e9 : stepK b m e code = (m, 0, 0) := by
  unfold stepK
  rw [if_pos hE]
  unfold stK
  rw [if_neg hc]
 unfold CdoK
 rw [e9]
 simp only [errP_zero]
 have hb0 : Below w.heap.size w (w.alloc (celE e)) := (Below.refl _ w).alloc (Nat.le_refl _) _
 have hE0 := BlkE.new w e
 obtain ⟨W0, hW0⟩ : ∃ W0, w.alloc (celE e) = W0 := ⟨_, rfl⟩
 rw [hW0] at hb0 hE0
 have hnx : w.heap.size ∉ x.all := fun e => Nat.lt_irrefl _ (h.I.low _ e).2
 have hE1 := hE0.at
 have HD : Hid (Calls Tryz.prog 34 #[.pointer (some ⟨x.p, 0, none⟩), agE e] W0 fun r w' => r = .returned .nilIface ∧ Kb w0 x px (doB b e).1 m w' ∧ BlkE w' w.heap.size e) := ((h.on hb0).do_ hz (hs.below (h.on hb0).B)).mono fun r w' ⟨h1, h2, h3⟩ => by
  rw [hE, errP_zero] at h1
  exact ⟨h1, h2, (h3.block _ hE0.lt hnx).trans hE0⟩
 have hCs : ∀ W, Below w0.heap.size w0 W → Cs W s := fun W hb => ⟨by rw [hb.cell (cell_lt hcs.1)]; exact hcs.1, by rw [hb.cell (cell_lt hcs.2)]; exact hcs.2⟩
 generalize (doB b e).1 = b2 at *
 have HL : Hid (∀ W, Kb w0 x px b2 m W → BlkE W w.heap.size e → Calls Tryz.prog 35 #[.pointer (some ⟨x.p, 0, none⟩), .string e.2.2.1.1] W fun r w' => ∃ is, r = .returned (.tuple #[agQ (lotAt b2 e.2.2.1.1), .bool is]) ∧ Kb w0 x px b2 m w' ∧ BlkE w' w.heap.size e) := fun W hk hB =>
  (blot_any e.2.2.1.1 W w0.heap.size x b2 hk.I hz.li).mono fun r w' ⟨h1, h2⟩ => ⟨_, h1, hk.on h2, hB.below h2⟩
 skip
 generalize lotAt b2 e.2.2.1.1 = q at *
 clear h hz hs hcs hE e9 hb0 hE0 hnx hCs
 obtain ⟨s0, s1, s2, s3, s4, s5, s6, s7, s8, s9, s10, s11, s12, s13⟩ := hE1
 have HBx : Hid (∀ W, Kb w0 x px b2 m W → BlkE W w.heap.size e → ∃ WA, W.alloc (.cells #[.string q.1, .string q.2.1, .int .i64 q.2.2.1, .int .i64 q.2.2.2] 46) = WA ∧ Kb w0 x px b2 m WA ∧ EntAt WA w.heap.size e ∧ BoxL W.heap.size q WA) := fun W hk hB => ⟨_, rfl, hk.on ((Below.refl _ W).alloc (Nat.le_refl _) _), (hB.below ((Below.refl _ W).alloc (Nat.le_refl _) _)).at, BoxL.new W q _ rfl⟩
 obtain ⟨ak, ⟨agc, agp⟩, ⟨ali, alc, alu, alk⟩, ⟨afz, afr, afb⟩, ⟨atz, atr, atb⟩, an⟩ := e
 obtain ⟨qi, qc, qu, qk⟩ := q
 unfold agE celE at *
 simp only at hW0 HD HL HBx s0 s1 s2 s3 s4 s5 s6 s7 s8 s9 s10 s11 s12 s13 hc ⊢
 have e3 := same_eq qc code
 rw [decide_eq_false hc] at e3
 clear hc
 go_enter Tryz.func16, Tryz.ntmps16
 go_wp2_with (first
  | (go_at_call 34; refine HD.out.mono ?_; rintro r w1 ⟨rfl, hk1, hB1⟩; have HK1 : Hid (Kb _ _ _ _ _ _) := hk1; have HB1 : Hid (BlkE _ _ _) := hB1; have t3 := (hB1.at).c3; (try simp only at t3); clear hk1 hB1 s0 s1 s2 s3 s4 s5 s6 s7 s8 s9 s10 s11 s12 s13)
  | (go_at_call 35; refine (HL.out _ HK1.out HB1.out).mono ?_; rintro r w2 ⟨is, rfl, hk2, hB2⟩; clear t3; obtain ⟨WA, hal, hkA, ⟨s0, s1, s2, s3, s4, s5, s6, s7, s8, s9, s10, s11, s12, s13⟩, ⟨d0, d1, d2, d3⟩⟩ := HBx.out w2 hk2 hB2; have HKA : Hid (Kb w0 x px b2 m WA) := hkA; (try simp only at s0 s1 s2 s3 s4 s5 s6 s7 s8 s9 s10 s11 s12 s13 d0 d1 d2 d3 hal); clear hk2 hB2 hkA))
 go_ret2
 exact ⟨rfl, HKA.out⟩
theorem cdo_in (w0 w : World) (s : Nat → Addr) (x : Bl) (px : Nat) (b : Bk) (m : List Ly) (e : En) (code : ByteArray) (h : Kb w0 x px b m w) (hz : SzE e) (hs : Bs w0 s) (hcs : Cs w0 s) (hE : (doB b e).2 = 0) (hc : (lotAt (doB b e).1 e.2.2.1.1).2.1 = code) (hk : e.1 = kIn) :
  Calls Tryz.prog 16 #[ptrK px, .pointer (some ⟨x.p, 0, none⟩), agE e, .string code] w (CdoK w0 x px b m e code s) := by
 have e9 : stepK b m e code = (inL m e.2.2.2.2.2 (lotAt (doB b e).1 e.2.2.1.1).2.2.2, 0, inE m e.2.2.2.2.2 (lotAt (doB b e).1 e.2.2.1.1).2.2.2) := by
  unfold stepK
  rw [if_pos hE]
  unfold stK
  rw [if_pos hc, if_pos (Or.inl hk)]
 unfold CdoK
 rw [e9]
 skip
 have hb0 : Below w.heap.size w (w.alloc (celE e)) := (Below.refl _ w).alloc (Nat.le_refl _) _
 have hE0 := BlkE.new w e
 obtain ⟨W0, hW0⟩ : ∃ W0, w.alloc (celE e) = W0 := ⟨_, rfl⟩
 rw [hW0] at hb0 hE0
 have hnx : w.heap.size ∉ x.all := fun e => Nat.lt_irrefl _ (h.I.low _ e).2
 have hE1 := hE0.at
 have HD : Hid (Calls Tryz.prog 34 #[.pointer (some ⟨x.p, 0, none⟩), agE e] W0 fun r w' => r = .returned .nilIface ∧ Kb w0 x px (doB b e).1 m w' ∧ BlkE w' w.heap.size e) := ((h.on hb0).do_ hz (hs.below (h.on hb0).B)).mono fun r w' ⟨h1, h2, h3⟩ => by
  rw [hE, errP_zero] at h1
  exact ⟨h1, h2, (h3.block _ hE0.lt hnx).trans hE0⟩
 have hCs : ∀ W, Below w0.heap.size w0 W → Cs W s := fun W hb => ⟨by rw [hb.cell (cell_lt hcs.1)]; exact hcs.1, by rw [hb.cell (cell_lt hcs.2)]; exact hcs.2⟩
 generalize (doB b e).1 = b2 at *
 have HL : Hid (∀ W, Kb w0 x px b2 m W → BlkE W w.heap.size e → Calls Tryz.prog 35 #[.pointer (some ⟨x.p, 0, none⟩), .string e.2.2.1.1] W fun r w' => ∃ is, r = .returned (.tuple #[agQ (lotAt b2 e.2.2.1.1), .bool is]) ∧ Kb w0 x px b2 m w' ∧ BlkE w' w.heap.size e) := fun W hk hB =>
  (blot_any e.2.2.1.1 W w0.heap.size x b2 hk.I hz.li).mono fun r w' ⟨h1, h2⟩ => ⟨_, h1, hk.on h2, hB.below h2⟩
 have HIn : Hid (∀ W, Kb w0 x px b2 m W → Calls Tryz.prog 12 #[ptrK px, .int .i64 e.2.2.2.2.2, .int .i64 (lotAt b2 e.2.2.1.1).2.2.2] W fun r w' => r = .returned (errP s (inE m e.2.2.2.2.2 (lotAt b2 e.2.2.1.1).2.2.2)) ∧ Kb w0 x px b2 (inL m e.2.2.2.2.2 (lotAt b2 e.2.2.1.1).2.2.2) w') := fun W hk => hk.in_ (hCs W hk.B) _ _
 generalize lotAt b2 e.2.2.1.1 = q at *
 clear h hz hs hcs hE e9 hb0 hE0 hnx hCs
 obtain ⟨s0, s1, s2, s3, s4, s5, s6, s7, s8, s9, s10, s11, s12, s13⟩ := hE1
 have HBx : Hid (∀ W, Kb w0 x px b2 m W → BlkE W w.heap.size e → ∃ WA, W.alloc (.cells #[.string q.1, .string q.2.1, .int .i64 q.2.2.1, .int .i64 q.2.2.2] 46) = WA ∧ Kb w0 x px b2 m WA ∧ EntAt WA w.heap.size e ∧ BoxL W.heap.size q WA) := fun W hk hB => ⟨_, rfl, hk.on ((Below.refl _ W).alloc (Nat.le_refl _) _), (hB.below ((Below.refl _ W).alloc (Nat.le_refl _) _)).at, BoxL.new W q _ rfl⟩
 obtain ⟨ak, ⟨agc, agp⟩, ⟨ali, alc, alu, alk⟩, ⟨afz, afr, afb⟩, ⟨atz, atr, atb⟩, an⟩ := e
 obtain ⟨qi, qc, qu, qk⟩ := q
 unfold agE celE at *
 simp only at hW0 HD HL HBx s0 s1 s2 s3 s4 s5 s6 s7 s8 s9 s10 s11 s12 s13 hc hk HIn ⊢
 have e3 := same_eq qc code
 rw [decide_eq_true hc] at e3
 clear hc
 have x1 := same_wordR hk
 clear hk
 generalize errP s (inE m an qk) = er at *
 generalize inL m an qk = m2 at *
 go_enter Tryz.func16, Tryz.ntmps16
 go_wp2_with (first
  | (go_at_call 34; refine HD.out.mono ?_; rintro r w1 ⟨rfl, hk1, hB1⟩; have HK1 : Hid (Kb _ _ _ _ _ _) := hk1; have HB1 : Hid (BlkE _ _ _) := hB1; have t3 := (hB1.at).c3; (try simp only at t3); clear hk1 hB1 s0 s1 s2 s3 s4 s5 s6 s7 s8 s9 s10 s11 s12 s13)
  | (go_at_call 35; refine (HL.out _ HK1.out HB1.out).mono ?_; rintro r w2 ⟨is, rfl, hk2, hB2⟩; clear t3; obtain ⟨WA, hal, hkA, ⟨s0, s1, s2, s3, s4, s5, s6, s7, s8, s9, s10, s11, s12, s13⟩, ⟨d0, d1, d2, d3⟩⟩ := HBx.out w2 hk2 hB2; have HKA : Hid (Kb w0 x px b2 m WA) := hkA; (try simp only at s0 s1 s2 s3 s4 s5 s6 s7 s8 s9 s10 s11 s12 s13 d0 d1 d2 d3 hal); clear hk2 hB2 hkA)
  | (go_at_call 12; refine (HIn.out _ HKA.out).mono ?_; rintro r w3 ⟨rfl, hk3⟩; have HK3 : Hid (Kb _ _ _ _ _ _) := hk3; clear hk3))
 go_ret2
 exact ⟨rfl, HK3.out⟩
theorem cdo_more (w0 w : World) (s : Nat → Addr) (x : Bl) (px : Nat) (b : Bk) (m : List Ly) (e : En) (code : ByteArray) (h : Kb w0 x px b m w) (hz : SzE e) (hs : Bs w0 s) (hcs : Cs w0 s) (hE : (doB b e).2 = 0) (hc : (lotAt (doB b e).1 e.2.2.1.1).2.1 = code) (hn : e.1 ≠ kIn) (hk : e.1 = kMore) :
  Calls Tryz.prog 16 #[ptrK px, .pointer (some ⟨x.p, 0, none⟩), agE e, .string code] w (CdoK w0 x px b m e code s) := by
 have e9 : stepK b m e code = (inL m e.2.2.2.2.2 (lotAt (doB b e).1 e.2.2.1.1).2.2.2, 0, inE m e.2.2.2.2.2 (lotAt (doB b e).1 e.2.2.1.1).2.2.2) := by
  unfold stepK
  rw [if_pos hE]
  unfold stK
  rw [if_pos hc, if_pos (Or.inr hk)]
 unfold CdoK
 rw [e9]
 skip
 have hb0 : Below w.heap.size w (w.alloc (celE e)) := (Below.refl _ w).alloc (Nat.le_refl _) _
 have hE0 := BlkE.new w e
 obtain ⟨W0, hW0⟩ : ∃ W0, w.alloc (celE e) = W0 := ⟨_, rfl⟩
 rw [hW0] at hb0 hE0
 have hnx : w.heap.size ∉ x.all := fun e => Nat.lt_irrefl _ (h.I.low _ e).2
 have hE1 := hE0.at
 have HD : Hid (Calls Tryz.prog 34 #[.pointer (some ⟨x.p, 0, none⟩), agE e] W0 fun r w' => r = .returned .nilIface ∧ Kb w0 x px (doB b e).1 m w' ∧ BlkE w' w.heap.size e) := ((h.on hb0).do_ hz (hs.below (h.on hb0).B)).mono fun r w' ⟨h1, h2, h3⟩ => by
  rw [hE, errP_zero] at h1
  exact ⟨h1, h2, (h3.block _ hE0.lt hnx).trans hE0⟩
 have hCs : ∀ W, Below w0.heap.size w0 W → Cs W s := fun W hb => ⟨by rw [hb.cell (cell_lt hcs.1)]; exact hcs.1, by rw [hb.cell (cell_lt hcs.2)]; exact hcs.2⟩
 generalize (doB b e).1 = b2 at *
 have HL : Hid (∀ W, Kb w0 x px b2 m W → BlkE W w.heap.size e → Calls Tryz.prog 35 #[.pointer (some ⟨x.p, 0, none⟩), .string e.2.2.1.1] W fun r w' => ∃ is, r = .returned (.tuple #[agQ (lotAt b2 e.2.2.1.1), .bool is]) ∧ Kb w0 x px b2 m w' ∧ BlkE w' w.heap.size e) := fun W hk hB =>
  (blot_any e.2.2.1.1 W w0.heap.size x b2 hk.I hz.li).mono fun r w' ⟨h1, h2⟩ => ⟨_, h1, hk.on h2, hB.below h2⟩
 have HIn : Hid (∀ W, Kb w0 x px b2 m W → Calls Tryz.prog 12 #[ptrK px, .int .i64 e.2.2.2.2.2, .int .i64 (lotAt b2 e.2.2.1.1).2.2.2] W fun r w' => r = .returned (errP s (inE m e.2.2.2.2.2 (lotAt b2 e.2.2.1.1).2.2.2)) ∧ Kb w0 x px b2 (inL m e.2.2.2.2.2 (lotAt b2 e.2.2.1.1).2.2.2) w') := fun W hk => hk.in_ (hCs W hk.B) _ _
 generalize lotAt b2 e.2.2.1.1 = q at *
 clear h hz hs hcs hE e9 hb0 hE0 hnx hCs
 obtain ⟨s0, s1, s2, s3, s4, s5, s6, s7, s8, s9, s10, s11, s12, s13⟩ := hE1
 have HBx : Hid (∀ W, Kb w0 x px b2 m W → BlkE W w.heap.size e → ∃ WA, W.alloc (.cells #[.string q.1, .string q.2.1, .int .i64 q.2.2.1, .int .i64 q.2.2.2] 46) = WA ∧ Kb w0 x px b2 m WA ∧ EntAt WA w.heap.size e ∧ BoxL W.heap.size q WA) := fun W hk hB => ⟨_, rfl, hk.on ((Below.refl _ W).alloc (Nat.le_refl _) _), (hB.below ((Below.refl _ W).alloc (Nat.le_refl _) _)).at, BoxL.new W q _ rfl⟩
 obtain ⟨ak, ⟨agc, agp⟩, ⟨ali, alc, alu, alk⟩, ⟨afz, afr, afb⟩, ⟨atz, atr, atb⟩, an⟩ := e
 obtain ⟨qi, qc, qu, qk⟩ := q
 unfold agE celE at *
 simp only at hW0 HD HL HBx s0 s1 s2 s3 s4 s5 s6 s7 s8 s9 s10 s11 s12 s13 hc hk hn HIn ⊢
 have e3 := same_eq qc code
 rw [decide_eq_true hc] at e3
 clear hc
 have x1 := same_wordR hk
 have x2 := other_word hn
 clear hk hn
 generalize errP s (inE m an qk) = er at *
 generalize inL m an qk = m2 at *
 go_enter Tryz.func16, Tryz.ntmps16
 go_wp2_with (first
  | (go_at_call 34; refine HD.out.mono ?_; rintro r w1 ⟨rfl, hk1, hB1⟩; have HK1 : Hid (Kb _ _ _ _ _ _) := hk1; have HB1 : Hid (BlkE _ _ _) := hB1; have t3 := (hB1.at).c3; (try simp only at t3); clear hk1 hB1 s0 s1 s2 s3 s4 s5 s6 s7 s8 s9 s10 s11 s12 s13)
  | (go_at_call 35; refine (HL.out _ HK1.out HB1.out).mono ?_; rintro r w2 ⟨is, rfl, hk2, hB2⟩; clear t3; obtain ⟨WA, hal, hkA, ⟨s0, s1, s2, s3, s4, s5, s6, s7, s8, s9, s10, s11, s12, s13⟩, ⟨d0, d1, d2, d3⟩⟩ := HBx.out w2 hk2 hB2; have HKA : Hid (Kb w0 x px b2 m WA) := hkA; (try simp only at s0 s1 s2 s3 s4 s5 s6 s7 s8 s9 s10 s11 s12 s13 d0 d1 d2 d3 hal); clear hk2 hB2 hkA)
  | (go_at_call 12; refine (HIn.out _ HKA.out).mono ?_; rintro r w3 ⟨rfl, hk3⟩; have HK3 : Hid (Kb _ _ _ _ _ _) := hk3; clear hk3))
 go_ret2
 exact ⟨rfl, HK3.out⟩
theorem cdo_out (w0 w : World) (s : Nat → Addr) (x : Bl) (px : Nat) (b : Bk) (m : List Ly) (e : En) (code : ByteArray) (h : Kb w0 x px b m w) (hz : SzE e) (hs : Bs w0 s) (hcs : Cs w0 s) (hE : (doB b e).2 = 0) (hc : (lotAt (doB b e).1 e.2.2.1.1).2.1 = code) (h1 : ¬ (e.1 = kIn ∨ e.1 = kMore)) (hk : e.1 = kOut) :
  Calls Tryz.prog 16 #[ptrK px, .pointer (some ⟨x.p, 0, none⟩), agE e, .string code] w (CdoK w0 x px b m e code s) := by
 have e9 : stepK b m e code = (outL m e.2.2.2.2.2, outN m e.2.2.2.2.2, outE m e.2.2.2.2.2) := by
  unfold stepK
  rw [if_pos hE]
  unfold stK
  rw [if_pos hc, if_neg h1, if_pos (Or.inl hk)]
 unfold CdoK
 rw [e9]
 skip
 have hb0 : Below w.heap.size w (w.alloc (celE e)) := (Below.refl _ w).alloc (Nat.le_refl _) _
 have hE0 := BlkE.new w e
 obtain ⟨W0, hW0⟩ : ∃ W0, w.alloc (celE e) = W0 := ⟨_, rfl⟩
 rw [hW0] at hb0 hE0
 have hnx : w.heap.size ∉ x.all := fun e => Nat.lt_irrefl _ (h.I.low _ e).2
 have hE1 := hE0.at
 have HD : Hid (Calls Tryz.prog 34 #[.pointer (some ⟨x.p, 0, none⟩), agE e] W0 fun r w' => r = .returned .nilIface ∧ Kb w0 x px (doB b e).1 m w' ∧ BlkE w' w.heap.size e) := ((h.on hb0).do_ hz (hs.below (h.on hb0).B)).mono fun r w' ⟨h1, h2, h3⟩ => by
  rw [hE, errP_zero] at h1
  exact ⟨h1, h2, (h3.block _ hE0.lt hnx).trans hE0⟩
 have hCs : ∀ W, Below w0.heap.size w0 W → Cs W s := fun W hb => ⟨by rw [hb.cell (cell_lt hcs.1)]; exact hcs.1, by rw [hb.cell (cell_lt hcs.2)]; exact hcs.2⟩
 generalize (doB b e).1 = b2 at *
 have HL : Hid (∀ W, Kb w0 x px b2 m W → BlkE W w.heap.size e → Calls Tryz.prog 35 #[.pointer (some ⟨x.p, 0, none⟩), .string e.2.2.1.1] W fun r w' => ∃ is, r = .returned (.tuple #[agQ (lotAt b2 e.2.2.1.1), .bool is]) ∧ Kb w0 x px b2 m w' ∧ BlkE w' w.heap.size e) := fun W hk hB =>
  (blot_any e.2.2.1.1 W w0.heap.size x b2 hk.I hz.li).mono fun r w' ⟨h1, h2⟩ => ⟨_, h1, hk.on h2, hB.below h2⟩
 have HOu : Hid (∀ W, Kb w0 x px b2 m W → Calls Tryz.prog 13 #[ptrK px, .int .i64 e.2.2.2.2.2] W fun r w' => r = .returned (.tuple #[.int .i64 (outN m e.2.2.2.2.2), errP s (outE m e.2.2.2.2.2)]) ∧ Kb w0 x px b2 (outL m e.2.2.2.2.2) w') := fun W hk => hk.out_ (hCs W hk.B) _
 generalize lotAt b2 e.2.2.1.1 = q at *
 clear h hz hs hcs hE e9 hb0 hE0 hnx hCs
 obtain ⟨s0, s1, s2, s3, s4, s5, s6, s7, s8, s9, s10, s11, s12, s13⟩ := hE1
 have HBx : Hid (∀ W, Kb w0 x px b2 m W → BlkE W w.heap.size e → ∃ WA, W.alloc (.cells #[.string q.1, .string q.2.1, .int .i64 q.2.2.1, .int .i64 q.2.2.2] 46) = WA ∧ Kb w0 x px b2 m WA ∧ EntAt WA w.heap.size e ∧ BoxL W.heap.size q WA) := fun W hk hB => ⟨_, rfl, hk.on ((Below.refl _ W).alloc (Nat.le_refl _) _), (hB.below ((Below.refl _ W).alloc (Nat.le_refl _) _)).at, BoxL.new W q _ rfl⟩
 obtain ⟨ak, ⟨agc, agp⟩, ⟨ali, alc, alu, alk⟩, ⟨afz, afr, afb⟩, ⟨atz, atr, atb⟩, an⟩ := e
 obtain ⟨qi, qc, qu, qk⟩ := q
 unfold agE celE at *
 simp only at hW0 HD HL HBx s0 s1 s2 s3 s4 s5 s6 s7 s8 s9 s10 s11 s12 s13 hc hk h1 HOu ⊢
 have e3 := same_eq qc code
 rw [decide_eq_true hc] at e3
 clear hc
 have x1 := same_wordR hk
 have x2 := other_word fun e => h1 (Or.inl e)
 have x3 := other_word fun e => h1 (Or.inr e)
 clear hk h1
 generalize errP s (outE m an) = er at *
 generalize outL m an = m2 at *
 generalize outN m an = on at *
 go_enter Tryz.func16, Tryz.ntmps16
 go_wp2_with (first
  | (go_at_call 34; refine HD.out.mono ?_; rintro r w1 ⟨rfl, hk1, hB1⟩; have HK1 : Hid (Kb _ _ _ _ _ _) := hk1; have HB1 : Hid (BlkE _ _ _) := hB1; have t3 := (hB1.at).c3; (try simp only at t3); clear hk1 hB1 s0 s1 s2 s3 s4 s5 s6 s7 s8 s9 s10 s11 s12 s13)
  | (go_at_call 35; refine (HL.out _ HK1.out HB1.out).mono ?_; rintro r w2 ⟨is, rfl, hk2, hB2⟩; clear t3; obtain ⟨WA, hal, hkA, ⟨s0, s1, s2, s3, s4, s5, s6, s7, s8, s9, s10, s11, s12, s13⟩, ⟨d0, d1, d2, d3⟩⟩ := HBx.out w2 hk2 hB2; have HKA : Hid (Kb w0 x px b2 m WA) := hkA; (try simp only at s0 s1 s2 s3 s4 s5 s6 s7 s8 s9 s10 s11 s12 s13 d0 d1 d2 d3 hal); clear hk2 hB2 hkA)
  | (go_at_call 13; refine (HOu.out _ HKA.out).mono ?_; rintro r w3 ⟨rfl, hk3⟩; have HK3 : Hid (Kb _ _ _ _ _ _) := hk3; clear hk3))
 go_ret2
 exact ⟨rfl, HK3.out⟩
theorem cdo_less (w0 w : World) (s : Nat → Addr) (x : Bl) (px : Nat) (b : Bk) (m : List Ly) (e : En) (code : ByteArray) (h : Kb w0 x px b m w) (hz : SzE e) (hs : Bs w0 s) (hcs : Cs w0 s) (hE : (doB b e).2 = 0) (hc : (lotAt (doB b e).1 e.2.2.1.1).2.1 = code) (h1 : ¬ (e.1 = kIn ∨ e.1 = kMore)) (hn : e.1 ≠ kOut) (hk : e.1 = kLess) :
  Calls Tryz.prog 16 #[ptrK px, .pointer (some ⟨x.p, 0, none⟩), agE e, .string code] w (CdoK w0 x px b m e code s) := by
 have e9 : stepK b m e code = (outL m e.2.2.2.2.2, outN m e.2.2.2.2.2, outE m e.2.2.2.2.2) := by
  unfold stepK
  rw [if_pos hE]
  unfold stK
  rw [if_pos hc, if_neg h1, if_pos (Or.inr hk)]
 unfold CdoK
 rw [e9]
 skip
 have hb0 : Below w.heap.size w (w.alloc (celE e)) := (Below.refl _ w).alloc (Nat.le_refl _) _
 have hE0 := BlkE.new w e
 obtain ⟨W0, hW0⟩ : ∃ W0, w.alloc (celE e) = W0 := ⟨_, rfl⟩
 rw [hW0] at hb0 hE0
 have hnx : w.heap.size ∉ x.all := fun e => Nat.lt_irrefl _ (h.I.low _ e).2
 have hE1 := hE0.at
 have HD : Hid (Calls Tryz.prog 34 #[.pointer (some ⟨x.p, 0, none⟩), agE e] W0 fun r w' => r = .returned .nilIface ∧ Kb w0 x px (doB b e).1 m w' ∧ BlkE w' w.heap.size e) := ((h.on hb0).do_ hz (hs.below (h.on hb0).B)).mono fun r w' ⟨h1, h2, h3⟩ => by
  rw [hE, errP_zero] at h1
  exact ⟨h1, h2, (h3.block _ hE0.lt hnx).trans hE0⟩
 have hCs : ∀ W, Below w0.heap.size w0 W → Cs W s := fun W hb => ⟨by rw [hb.cell (cell_lt hcs.1)]; exact hcs.1, by rw [hb.cell (cell_lt hcs.2)]; exact hcs.2⟩
 generalize (doB b e).1 = b2 at *
 have HL : Hid (∀ W, Kb w0 x px b2 m W → BlkE W w.heap.size e → Calls Tryz.prog 35 #[.pointer (some ⟨x.p, 0, none⟩), .string e.2.2.1.1] W fun r w' => ∃ is, r = .returned (.tuple #[agQ (lotAt b2 e.2.2.1.1), .bool is]) ∧ Kb w0 x px b2 m w' ∧ BlkE w' w.heap.size e) := fun W hk hB =>
  (blot_any e.2.2.1.1 W w0.heap.size x b2 hk.I hz.li).mono fun r w' ⟨h1, h2⟩ => ⟨_, h1, hk.on h2, hB.below h2⟩
 have HOu : Hid (∀ W, Kb w0 x px b2 m W → Calls Tryz.prog 13 #[ptrK px, .int .i64 e.2.2.2.2.2] W fun r w' => r = .returned (.tuple #[.int .i64 (outN m e.2.2.2.2.2), errP s (outE m e.2.2.2.2.2)]) ∧ Kb w0 x px b2 (outL m e.2.2.2.2.2) w') := fun W hk => hk.out_ (hCs W hk.B) _
 generalize lotAt b2 e.2.2.1.1 = q at *
 clear h hz hs hcs hE e9 hb0 hE0 hnx hCs
 obtain ⟨s0, s1, s2, s3, s4, s5, s6, s7, s8, s9, s10, s11, s12, s13⟩ := hE1
 have HBx : Hid (∀ W, Kb w0 x px b2 m W → BlkE W w.heap.size e → ∃ WA, W.alloc (.cells #[.string q.1, .string q.2.1, .int .i64 q.2.2.1, .int .i64 q.2.2.2] 46) = WA ∧ Kb w0 x px b2 m WA ∧ EntAt WA w.heap.size e ∧ BoxL W.heap.size q WA) := fun W hk hB => ⟨_, rfl, hk.on ((Below.refl _ W).alloc (Nat.le_refl _) _), (hB.below ((Below.refl _ W).alloc (Nat.le_refl _) _)).at, BoxL.new W q _ rfl⟩
 obtain ⟨ak, ⟨agc, agp⟩, ⟨ali, alc, alu, alk⟩, ⟨afz, afr, afb⟩, ⟨atz, atr, atb⟩, an⟩ := e
 obtain ⟨qi, qc, qu, qk⟩ := q
 unfold agE celE at *
 simp only at hW0 HD HL HBx s0 s1 s2 s3 s4 s5 s6 s7 s8 s9 s10 s11 s12 s13 hc hk h1 hn HOu ⊢
 have e3 := same_eq qc code
 rw [decide_eq_true hc] at e3
 clear hc
 have x1 := same_wordR hk
 have x2 := other_word fun e => h1 (Or.inl e)
 have x3 := other_word fun e => h1 (Or.inr e)
 have x4 := other_word hn
 clear hk h1 hn
 generalize errP s (outE m an) = er at *
 generalize outL m an = m2 at *
 generalize outN m an = on at *
 go_enter Tryz.func16, Tryz.ntmps16
 go_wp2_with (first
  | (go_at_call 34; refine HD.out.mono ?_; rintro r w1 ⟨rfl, hk1, hB1⟩; have HK1 : Hid (Kb _ _ _ _ _ _) := hk1; have HB1 : Hid (BlkE _ _ _) := hB1; have t3 := (hB1.at).c3; (try simp only at t3); clear hk1 hB1 s0 s1 s2 s3 s4 s5 s6 s7 s8 s9 s10 s11 s12 s13)
  | (go_at_call 35; refine (HL.out _ HK1.out HB1.out).mono ?_; rintro r w2 ⟨is, rfl, hk2, hB2⟩; clear t3; obtain ⟨WA, hal, hkA, ⟨s0, s1, s2, s3, s4, s5, s6, s7, s8, s9, s10, s11, s12, s13⟩, ⟨d0, d1, d2, d3⟩⟩ := HBx.out w2 hk2 hB2; have HKA : Hid (Kb w0 x px b2 m WA) := hkA; (try simp only at s0 s1 s2 s3 s4 s5 s6 s7 s8 s9 s10 s11 s12 s13 d0 d1 d2 d3 hal); clear hk2 hB2 hkA)
  | (go_at_call 13; refine (HOu.out _ HKA.out).mono ?_; rintro r w3 ⟨rfl, hk3⟩; have HK3 : Hid (Kb _ _ _ _ _ _) := hk3; clear hk3))
 go_ret2
 exact ⟨rfl, HK3.out⟩
theorem cdo_else (w0 w : World) (s : Nat → Addr) (x : Bl) (px : Nat) (b : Bk) (m : List Ly) (e : En) (code : ByteArray) (h : Kb w0 x px b m w) (hz : SzE e) (hs : Bs w0 s) (hcs : Cs w0 s) (hE : (doB b e).2 = 0) (hc : (lotAt (doB b e).1 e.2.2.1.1).2.1 = code) (h1 : ¬ (e.1 = kIn ∨ e.1 = kMore)) (h2 : ¬ (e.1 = kOut ∨ e.1 = kLess)) :
  Calls Tryz.prog 16 #[ptrK px, .pointer (some ⟨x.p, 0, none⟩), agE e, .string code] w (CdoK w0 x px b m e code s) := by
 have e9 : stepK b m e code = (m, 0, 0) := by
  unfold stepK
  rw [if_pos hE]
  unfold stK
  rw [if_pos hc, if_neg h1, if_neg h2]
 unfold CdoK
 rw [e9]
 simp only [errP_zero]
 have hb0 : Below w.heap.size w (w.alloc (celE e)) := (Below.refl _ w).alloc (Nat.le_refl _) _
 have hE0 := BlkE.new w e
 obtain ⟨W0, hW0⟩ : ∃ W0, w.alloc (celE e) = W0 := ⟨_, rfl⟩
 rw [hW0] at hb0 hE0
 have hnx : w.heap.size ∉ x.all := fun e => Nat.lt_irrefl _ (h.I.low _ e).2
 have hE1 := hE0.at
 have HD : Hid (Calls Tryz.prog 34 #[.pointer (some ⟨x.p, 0, none⟩), agE e] W0 fun r w' => r = .returned .nilIface ∧ Kb w0 x px (doB b e).1 m w' ∧ BlkE w' w.heap.size e) := ((h.on hb0).do_ hz (hs.below (h.on hb0).B)).mono fun r w' ⟨h1, h2, h3⟩ => by
  rw [hE, errP_zero] at h1
  exact ⟨h1, h2, (h3.block _ hE0.lt hnx).trans hE0⟩
 have hCs : ∀ W, Below w0.heap.size w0 W → Cs W s := fun W hb => ⟨by rw [hb.cell (cell_lt hcs.1)]; exact hcs.1, by rw [hb.cell (cell_lt hcs.2)]; exact hcs.2⟩
 generalize (doB b e).1 = b2 at *
 have HL : Hid (∀ W, Kb w0 x px b2 m W → BlkE W w.heap.size e → Calls Tryz.prog 35 #[.pointer (some ⟨x.p, 0, none⟩), .string e.2.2.1.1] W fun r w' => ∃ is, r = .returned (.tuple #[agQ (lotAt b2 e.2.2.1.1), .bool is]) ∧ Kb w0 x px b2 m w' ∧ BlkE w' w.heap.size e) := fun W hk hB =>
  (blot_any e.2.2.1.1 W w0.heap.size x b2 hk.I hz.li).mono fun r w' ⟨h1, h2⟩ => ⟨_, h1, hk.on h2, hB.below h2⟩
 skip
 generalize lotAt b2 e.2.2.1.1 = q at *
 clear h hz hs hcs hE e9 hb0 hE0 hnx hCs
 obtain ⟨s0, s1, s2, s3, s4, s5, s6, s7, s8, s9, s10, s11, s12, s13⟩ := hE1
 have HBx : Hid (∀ W, Kb w0 x px b2 m W → BlkE W w.heap.size e → ∃ WA, W.alloc (.cells #[.string q.1, .string q.2.1, .int .i64 q.2.2.1, .int .i64 q.2.2.2] 46) = WA ∧ Kb w0 x px b2 m WA ∧ EntAt WA w.heap.size e ∧ BoxL W.heap.size q WA) := fun W hk hB => ⟨_, rfl, hk.on ((Below.refl _ W).alloc (Nat.le_refl _) _), (hB.below ((Below.refl _ W).alloc (Nat.le_refl _) _)).at, BoxL.new W q _ rfl⟩
 obtain ⟨ak, ⟨agc, agp⟩, ⟨ali, alc, alu, alk⟩, ⟨afz, afr, afb⟩, ⟨atz, atr, atb⟩, an⟩ := e
 obtain ⟨qi, qc, qu, qk⟩ := q
 unfold agE celE at *
 simp only at hW0 HD HL HBx s0 s1 s2 s3 s4 s5 s6 s7 s8 s9 s10 s11 s12 s13 hc h1 h2 ⊢
 have e3 := same_eq qc code
 rw [decide_eq_true hc] at e3
 clear hc
 have x2 := other_word fun e => h1 (Or.inl e)
 have x3 := other_word fun e => h1 (Or.inr e)
 have x4 := other_word fun e => h2 (Or.inl e)
 have x5 := other_word fun e => h2 (Or.inr e)
 clear h1 h2
 go_enter Tryz.func16, Tryz.ntmps16
 go_wp2_with (first
  | (go_at_call 34; refine HD.out.mono ?_; rintro r w1 ⟨rfl, hk1, hB1⟩; have HK1 : Hid (Kb _ _ _ _ _ _) := hk1; have HB1 : Hid (BlkE _ _ _) := hB1; have t3 := (hB1.at).c3; (try simp only at t3); clear hk1 hB1 s0 s1 s2 s3 s4 s5 s6 s7 s8 s9 s10 s11 s12 s13)
  | (go_at_call 35; refine (HL.out _ HK1.out HB1.out).mono ?_; rintro r w2 ⟨is, rfl, hk2, hB2⟩; clear t3; obtain ⟨WA, hal, hkA, ⟨s0, s1, s2, s3, s4, s5, s6, s7, s8, s9, s10, s11, s12, s13⟩, ⟨d0, d1, d2, d3⟩⟩ := HBx.out w2 hk2 hB2; have HKA : Hid (Kb w0 x px b2 m WA) := hkA; (try simp only at s0 s1 s2 s3 s4 s5 s6 s7 s8 s9 s10 s11 s12 s13 d0 d1 d2 d3 hal); clear hk2 hB2 hkA))
 go_ret2
 exact ⟨rfl, HKA.out⟩
theorem cdo_any (w0 w : World) (s : Nat → Addr) (x : Bl) (px : Nat) (b : Bk) (m : List Ly) (e : En) (code : ByteArray) (h : Kb w0 x px b m w) (hz : SzE e) (hs : Bs w0 s) (hcs : Cs w0 s) :
  Calls Tryz.prog 16 #[ptrK px, .pointer (some ⟨x.p, 0, none⟩), agE e, .string code] w (CdoK w0 x px b m e code s) := by
 by_cases hE : (doB b e).2 = 0
 ·by_cases hc : (lotAt (doB b e).1 e.2.2.1.1).2.1 = code
  ·by_cases h1 : e.1 = kIn
   ·exact cdo_in w0 w s x px b m e code h hz hs hcs hE hc h1
   ·by_cases h2 : e.1 = kMore
    ·exact cdo_more w0 w s x px b m e code h hz hs hcs hE hc h1 h2
    ·have h12 : ¬ (e.1 = kIn ∨ e.1 = kMore) := fun h9 => h9.elim h1 h2
     by_cases h3 : e.1 = kOut
     ·exact cdo_out w0 w s x px b m e code h hz hs hcs hE hc h12 h3
     ·by_cases h4 : e.1 = kLess
      ·exact cdo_less w0 w s x px b m e code h hz hs hcs hE hc h12 h3 h4
      ·exact cdo_else w0 w s x px b m e code h hz hs hcs hE hc h12 fun h9 => h9.elim h3 h4
  ·exact cdo_far w0 w s x px b m e code h hz hs hcs hE hc
 ·exact cdo_err w0 w s x px b m e code h hz hs hE
end Go.Proofs.YtpnmbomjnpheeaaGreatDoor
