/-
 What count.Check answers of a sheet: nothing, or a fault at its first line that is not well; nothing old is turned.
-/
import Derived.Test.YtppodkkefegbkaaGreatDoorJz15
import Derived.Test.YtppodkkefegbkaaGreatDoorJz4
import Derived.BigQuiet
import Derived.Lib.QuietBelow
set_option maxRecDepth 100000
set_option maxHeartbeats 16000000
namespace Go.Proofs.YtppodkkefegbkaaGreatDoor
open Go.RowKit Go.Lib Go.Sort
theorem twin_any (x y : Ln) (n : Nat) (w : World) (hy : LineAt w n 0 y) : Calls Tryz.prog 79 #[agN x, .pointer (some ⟨n, 0, none⟩)] w fun e w' => e = .returned (.bool (decide (x.1 = y.1 ∧ x.2.1 = y.2.1))) ∧ Below w.heap.size w w' := by
 obtain ⟨U, hU⟩ : ∃ U, w.alloc (.cells #[.string x.1.1, .int .i64 x.1.2.1, .int .i64 x.1.2.2, .string x.2.1, .int .i64 x.2.2] 48) = U := ⟨_, rfl⟩
 have hl : LineAt U w.heap.size 0 x := hU ▸ LineAt.new w x _ _ rfl
 have hb : Below w.heap.size w U := hU ▸ (Below.refl _ w).alloc (Nat.le_refl _) _
 have hy' : LineAt U n 0 y := hy.of_block (hb.block n hy.lt)
 have HB : Hid (Below w.heap.size w U) := hb
 rw [Bool.decide_and]
 obtain ⟨⟨a, r, b⟩, c, k⟩ := x
 obtain ⟨⟨a', r', b'⟩, c', k'⟩ := y
 obtain ⟨c0, c1, c2, c3, c4⟩ := hl
 obtain ⟨d0, d1, d2, d3, d4⟩ := hy'
 unfold agN
 simp only at *
 have hq := fun W => eqPl_run a a' r b r' b' W
 have hgd := Tryz.guardPs
 have e9 := same_eq c c'
 clear hb hy
 by_cases h1 : (a, r, b) = (a', r', b')
 ·rw [decide_eq_true h1] at hq ⊢
  by_cases h2 : c = c'
  ·rw [decide_eq_true h2] at e9 ⊢
   clear h1 h2
   go_enter Tryz.func79, Tryz.ntmps79
   go_wp2
   go_ret
   exact ⟨rfl, HB.out⟩
  ·rw [decide_eq_false h2] at e9 ⊢
   clear h1 h2
   go_enter Tryz.func79, Tryz.ntmps79
   go_wp2
   go_ret
   exact ⟨rfl, HB.out⟩
 ·rw [decide_eq_false h1] at hq ⊢
  clear h1
  go_enter Tryz.func79, Tryz.ntmps79
  go_wp2
  go_ret
  exact ⟨rfl, HB.out⟩
def lineE (l : List Ln) (x : Ln) : Nat := if ownS x = 0 then (if standsS l x then 7 else 0) else ownS x
theorem cline_any (x : Ln) (pp : Option Addr) (l : List Ln) (cap : Nat) (w : World) (s : Nat → Addr) (hs : Sent w s) (h : ShIn w pp l) (hn : l.length ≤ 1000) (hz : SzL x) :
  Calls Tryz.prog 41 #[agN x, .slice pp l.length cap] w fun e w' => e = .returned (errP s (lineE l x)) ∧ Below w.heap.size w w' := by
 obtain ⟨U, hU⟩ : ∃ U, w.alloc (.cells #[.string x.1.1, .int .i64 x.1.2.1, .int .i64 x.1.2.2, .string x.2.1, .int .i64 x.2.2] 48) = U := ⟨_, rfl⟩
 have hl : LineAt U w.heap.size 0 x := hU ▸ LineAt.new w x _ _ rfl
 have hb : Below w.heap.size w U := hU ▸ (Below.refl _ w).alloc (Nat.le_refl _) _
 have HB : Hid (Below w.heap.size w U) := hb
 have HP : Hid (Calls Tryz.prog 76 #[agP x.1] U _) := pcheck_any x.1 U s hz.1 (hs.below hb).two
 have HNm : Hid (∀ W, Calls Tryz.prog 77 #[.string x.2.1] W _) := fun W => name_any x.2.1 W hz.2
 have eg : ∀ args w, (callFunc 79 args).run Tryz.prog w = .ok (.enter 79 args) w := enters_of Tryz.func79 (by kernel_rfl) rfl
 have HCt : Hid (∀ W, Below U.heap.size U W → Calls Tryz.prog 78 #[.slice pp l.length cap, .func (.func 79) #[] #[.pointer (some ⟨w.heap.size, 0, none⟩)]] W fun e w' => e = .returned (.bool (standsS l x)) ∧ Below W.heap.size W w') := fun W hW =>
  lct_any 79 #[.pointer (some ⟨w.heap.size, 0, none⟩)] (fun y => decide (y.1 = x.1 ∧ y.2.1 = x.2.1)) eg pp l cap W (h.on (hb.trans (hW.mono hb.size))) hn fun y _ W' hW' => twin_any y x _ W' (hl.of_block ((hW.trans (hW'.mono hW.size)).block _ hl.lt))
 have HSe : Hid (∀ W, Below U.heap.size U W → Sent W s) := fun W hW => hs.below (hb.trans (hW.mono hb.size))
 have HLx : Hid (∀ W, Below U.heap.size U W → LineAt W w.heap.size 0 x) := fun W hW => hl.of_block (hW.block _ hl.lt)
 unfold agP at HP
 obtain ⟨c0, c1, c2, c3, c4⟩ := hl
 generalize hln : l.length = ln at *
 clear hs h hz hb eg hln
 rcases ownS_cases x with ⟨hO, hp0, hnm, hn0, hn1⟩ | ⟨hp0, hO⟩ | ⟨hp0, hnm, hO⟩ | ⟨hp0, hnm, hn0, hO⟩ | ⟨hp0, hnm, hn0, hn1, hO⟩
 ·rw [hp0, errP_zero] at HP
  rw [hnm] at HNm
  cases hst : standsS l x with
  | true =>
   rw [hst] at HCt
   have HE : Hid (errP s (lineE l x) = err (s 6)) := by show _ = _; unfold lineE; rw [if_pos hO, if_pos hst]; rfl
   clear hst hO hp0 hnm
   go_enter Tryz.func41, Tryz.ntmps41
   go_wp2_with (first
   | (go_at_call 76; refine HP.out.mono ?_; rintro r w2 ⟨rfl, hb2⟩; have HB2 : Hid (Below U.heap.size U w2) := hb2; have HB2w : Hid (Below w.heap.size w w2) := HB.out.trans (hb2.mono HB.out.size); obtain ⟨d0, d1, d2, d3, d4⟩ := HLx.out w2 hb2; obtain ⟨g0, g1, g2, g3, g4, g5, g6, g7, g8, g9, g10, g11⟩ := (HSe.out w2 hb2).cells; clear g0 g2 g3 g5 g6 g7 g8 g9 g10 g11 hb2)
   | (go_at_call 77; refine (HNm.out _).mono ?_; rintro r w3 ⟨rfl, hw3⟩; have hw3' := hw3.symm; subst hw3')
   | (go_at_call 78; refine (HCt.out w2 HB2.out).mono ?_; rintro r w4 ⟨rfl, hb4⟩; have HB4w : Hid (Below w.heap.size w w4) := HB2w.out.trans (hb4.mono HB2w.out.size); obtain ⟨g0, g1, g2, g3, g4, g5, g6, g7, g8, g9, g10, g11⟩ := (HSe.out w4 (HB2.out.trans (hb4.mono HB2.out.size))).cells; clear g0 g1 g2 g3 g4 g5 g7 g8 g9 g10 g11 hb4))
   go_ret
   exact ⟨by rw [HE.out]; rfl, HB4w.out⟩
  | false =>
   rw [hst] at HCt
   have HE : Hid (errP s (lineE l x) = .nilIface) := by show _ = _; unfold lineE; rw [if_pos hO, hst]; rfl
   clear hst hO hp0 hnm
   go_enter Tryz.func41, Tryz.ntmps41
   go_wp2_with (first
   | (go_at_call 76; refine HP.out.mono ?_; rintro r w2 ⟨rfl, hb2⟩; have HB2 : Hid (Below U.heap.size U w2) := hb2; have HB2w : Hid (Below w.heap.size w w2) := HB.out.trans (hb2.mono HB.out.size); obtain ⟨d0, d1, d2, d3, d4⟩ := HLx.out w2 hb2; obtain ⟨g0, g1, g2, g3, g4, g5, g6, g7, g8, g9, g10, g11⟩ := (HSe.out w2 hb2).cells; clear g0 g2 g3 g5 g6 g7 g8 g9 g10 g11 hb2)
   | (go_at_call 77; refine (HNm.out _).mono ?_; rintro r w3 ⟨rfl, hw3⟩; have hw3' := hw3.symm; subst hw3')
   | (go_at_call 78; refine (HCt.out w2 HB2.out).mono ?_; rintro r w4 ⟨rfl, hb4⟩; have HB4w : Hid (Below w.heap.size w w4) := HB2w.out.trans (hb4.mono HB2w.out.size); obtain ⟨g0, g1, g2, g3, g4, g5, g6, g7, g8, g9, g10, g11⟩ := (HSe.out w4 (HB2.out.trans (hb4.mono HB2.out.size))).cells; clear g0 g1 g2 g3 g4 g5 g7 g8 g9 g10 g11 hb4))
   go_ret
   exact ⟨by rw [HE.out]; rfl, HB4w.out⟩
 ·rw [errP_pos s hp0] at HP
  have HE : Hid (errP s (lineE l x) = err (s (placeErr x.1 - 1))) := by show _ = _; unfold lineE; rw [if_neg (by rw [hO]; exact hp0), hO, errP_pos s hp0]
  generalize s (placeErr x.1 - 1) = ad at *
  clear hO hp0 HCt
  go_enter Tryz.func41, Tryz.ntmps41
  go_wp2_with (first
  | (go_at_call 76; refine HP.out.mono ?_; rintro r w2 ⟨rfl, hb2⟩; have HB2 : Hid (Below U.heap.size U w2) := hb2; have HB2w : Hid (Below w.heap.size w w2) := HB.out.trans (hb2.mono HB.out.size); obtain ⟨d0, d1, d2, d3, d4⟩ := HLx.out w2 hb2; obtain ⟨g0, g1, g2, g3, g4, g5, g6, g7, g8, g9, g10, g11⟩ := (HSe.out w2 hb2).cells; clear g0 g2 g3 g5 g6 g7 g8 g9 g10 g11 hb2)
  | (go_at_call 77; refine (HNm.out _).mono ?_; rintro r w3 ⟨rfl, hw3⟩; have hw3' := hw3.symm; subst hw3')
  | (go_at_call 78; refine (HCt.out w2 HB2.out).mono ?_; rintro r w4 ⟨rfl, hb4⟩; have HB4w : Hid (Below w.heap.size w w4) := HB2w.out.trans (hb4.mono HB2w.out.size); obtain ⟨g0, g1, g2, g3, g4, g5, g6, g7, g8, g9, g10, g11⟩ := (HSe.out w4 (HB2.out.trans (hb4.mono HB2.out.size))).cells; clear g0 g1 g2 g3 g4 g5 g7 g8 g9 g10 g11 hb4))
  go_ret
  exact ⟨by rw [HE.out]; rfl, HB2w.out⟩
 ·rw [hp0, errP_zero] at HP
  rw [hnm] at HNm
  have HE : Hid (errP s (lineE l x) = err (s 4)) := by show _ = _; unfold lineE; rw [hO, if_neg (by decide)]; rfl
  clear hO hp0 hnm HCt
  go_enter Tryz.func41, Tryz.ntmps41
  go_wp2_with (first
  | (go_at_call 76; refine HP.out.mono ?_; rintro r w2 ⟨rfl, hb2⟩; have HB2 : Hid (Below U.heap.size U w2) := hb2; have HB2w : Hid (Below w.heap.size w w2) := HB.out.trans (hb2.mono HB.out.size); obtain ⟨d0, d1, d2, d3, d4⟩ := HLx.out w2 hb2; obtain ⟨g0, g1, g2, g3, g4, g5, g6, g7, g8, g9, g10, g11⟩ := (HSe.out w2 hb2).cells; clear g0 g2 g3 g5 g6 g7 g8 g9 g10 g11 hb2)
  | (go_at_call 77; refine (HNm.out _).mono ?_; rintro r w3 ⟨rfl, hw3⟩; have hw3' := hw3.symm; subst hw3')
  | (go_at_call 78; refine (HCt.out w2 HB2.out).mono ?_; rintro r w4 ⟨rfl, hb4⟩; have HB4w : Hid (Below w.heap.size w w4) := HB2w.out.trans (hb4.mono HB2w.out.size); obtain ⟨g0, g1, g2, g3, g4, g5, g6, g7, g8, g9, g10, g11⟩ := (HSe.out w4 (HB2.out.trans (hb4.mono HB2.out.size))).cells; clear g0 g1 g2 g3 g4 g5 g7 g8 g9 g10 g11 hb4))
  go_ret
  exact ⟨by rw [HE.out]; rfl, HB2w.out⟩
 ·rw [hp0, errP_zero] at HP
  rw [hnm] at HNm
  have HE : Hid (errP s (lineE l x) = err (s 1)) := by show _ = _; unfold lineE; rw [hO, if_neg (by decide)]; rfl
  clear hO hp0 hnm HCt
  go_enter Tryz.func41, Tryz.ntmps41
  go_wp2_with (first
  | (go_at_call 76; refine HP.out.mono ?_; rintro r w2 ⟨rfl, hb2⟩; have HB2 : Hid (Below U.heap.size U w2) := hb2; have HB2w : Hid (Below w.heap.size w w2) := HB.out.trans (hb2.mono HB.out.size); obtain ⟨d0, d1, d2, d3, d4⟩ := HLx.out w2 hb2; obtain ⟨g0, g1, g2, g3, g4, g5, g6, g7, g8, g9, g10, g11⟩ := (HSe.out w2 hb2).cells; clear g0 g2 g3 g5 g6 g7 g8 g9 g10 g11 hb2)
  | (go_at_call 77; refine (HNm.out _).mono ?_; rintro r w3 ⟨rfl, hw3⟩; have hw3' := hw3.symm; subst hw3')
  | (go_at_call 78; refine (HCt.out w2 HB2.out).mono ?_; rintro r w4 ⟨rfl, hb4⟩; have HB4w : Hid (Below w.heap.size w w4) := HB2w.out.trans (hb4.mono HB2w.out.size); obtain ⟨g0, g1, g2, g3, g4, g5, g6, g7, g8, g9, g10, g11⟩ := (HSe.out w4 (HB2.out.trans (hb4.mono HB2.out.size))).cells; clear g0 g1 g2 g3 g4 g5 g7 g8 g9 g10 g11 hb4))
  go_ret
  exact ⟨by rw [HE.out]; rfl, HB2w.out⟩
 ·rw [hp0, errP_zero] at HP
  rw [hnm] at HNm
  have HE : Hid (errP s (lineE l x) = err (s 1)) := by show _ = _; unfold lineE; rw [hO, if_neg (by decide)]; rfl
  clear hO hp0 hnm HCt
  go_enter Tryz.func41, Tryz.ntmps41
  go_wp2_with (first
  | (go_at_call 76; refine HP.out.mono ?_; rintro r w2 ⟨rfl, hb2⟩; have HB2 : Hid (Below U.heap.size U w2) := hb2; have HB2w : Hid (Below w.heap.size w w2) := HB.out.trans (hb2.mono HB.out.size); obtain ⟨d0, d1, d2, d3, d4⟩ := HLx.out w2 hb2; obtain ⟨g0, g1, g2, g3, g4, g5, g6, g7, g8, g9, g10, g11⟩ := (HSe.out w2 hb2).cells; clear g0 g2 g3 g5 g6 g7 g8 g9 g10 g11 hb2)
  | (go_at_call 77; refine (HNm.out _).mono ?_; rintro r w3 ⟨rfl, hw3⟩; have hw3' := hw3.symm; subst hw3')
  | (go_at_call 78; refine (HCt.out w2 HB2.out).mono ?_; rintro r w4 ⟨rfl, hb4⟩; have HB4w : Hid (Below w.heap.size w w4) := HB2w.out.trans (hb4.mono HB2w.out.size); obtain ⟨g0, g1, g2, g3, g4, g5, g6, g7, g8, g9, g10, g11⟩ := (HSe.out w4 (HB2.out.trans (hb4.mono HB2.out.size))).cells; clear g0 g1 g2 g3 g4 g5 g7 g8 g9 g10 g11 hb4))
  go_ret
  exact ⟨by rw [HE.out]; rfl, HB2w.out⟩
theorem ShIn.take {w : World} {pp : Option Addr} {l : List Ln} (h : ShIn w pp l) (k : Nat) : ShIn w pp (l.take k) := by
 rcases h with rfl | ⟨bq, off, h1, h2⟩
 ·exact Or.inl (by rw [List.take_nil])
 ·exact Or.inr ⟨bq, off, h1, h2.lt, fun j x hj => h2.at_ j x (by
   rw [List.getElem?_take] at hj
   split at hj
   ·exact hj
   ·cases hj)⟩
theorem lineE_take {l : List Ln} {k : Nat} {x : Ln} (h : l[k]? = some x) : lineE (l.take k) x = sheetE l k := by
 rw [sheetE_eq h]; rfl
theorem ccheck_any (pp : Option Addr) (l : List Ln) (cap : Nat) (w : World) (s : Nat → Addr) (hs : Sent w s) (h : ShIn w pp l) (hcap : l.length ≤ cap) (hn : l.length ≤ 1000) (hz : ∀ x ∈ l, SzL x) :
  Calls Tryz.prog 15 #[.slice pp l.length cap] w fun e w' => ChkR s l w' e ∧ Below w.heap.size w w' := by
 have HL : Hid (∀ W k x, Below w.heap.size w W → l[k]? = some x → ∃ bq off, pp = some ⟨bq, off, none⟩ ∧ LineAt W bq (off + k * 5) x) := fun W k x hb hx => h.line hb hx
 have HC : Hid (∀ W k x, Below w.heap.size w W → l[k]? = some x → Calls Tryz.prog 41 #[agN x, .slice pp k cap] W fun e w' => e = .returned (errP s (sheetE l k)) ∧ Below W.heap.size W w') := fun W k x hb hx => by
  have hk : (l.take k).length = k := by rw [List.length_take]; have := (List.getElem?_eq_some_iff.1 hx).1; omega
  have := cline_any x pp (l.take k) cap W s (hs.below hb) ((h.on hb).take k) (by rw [hk]; have := (List.getElem?_eq_some_iff.1 hx).1; omega) (hz x (List.mem_of_getElem? hx))
  rw [lineE_take hx, hk] at this
  exact this
 unfold ChkR
 obtain ⟨ln, hln⟩ : ∃ ln, l.length = ln := ⟨_, rfl⟩
 have HN : Hid (ln = l.length) := hln.symm
 rw [hln] at hn hcap ⊢
 clear h hz hln hs
 go_enter Tryz.func15, Tryz.ntmps15
 go_wp2
 go_loopw [8] (fun vi wr => ∃ k : Nat, k ≤ ln ∧ vi = .int .i64 k ∧ (∀ j, j < k → sheetE l j = 0) ∧ Below w.heap.size w wr) (fun vi _ => ln - (RowKit.intOf vi).toNat)
 case atStart => exact ⟨0, Nat.zero_le _, rfl, fun j hj => absurd hj (Nat.not_lt_zero _), Below.refl _ _⟩
 case round =>
  obtain ⟨k, hk, rfl, hno, hwr⟩ := hrel
  have HNo : Hid (∀ j, j < k → sheetE l j = 0) := hno
  have HWr : Hid (Below w.heap.size w wr) := hwr
  clear hno
  by_cases hlt : k < ln
  ·obtain ⟨x, hx⟩ : ∃ x, l[k]? = some x := ⟨_, List.getElem?_eq_getElem (by rw [← HN.out]; exact hlt)⟩
   obtain ⟨bq, off, rfl, c0, c1, c2, c3, c4⟩ := HL.out wr k x hwr hx
   obtain ⟨W1, hW1⟩ : ∃ W1, wr.alloc (.cells #[.string x.1.1, .int .i64 x.1.2.1, .int .i64 x.1.2.2, .string x.2.1, .int .i64 x.2.2] 48) = W1 := ⟨_, rfl⟩
   have hl1 : LineAt W1 wr.heap.size 0 x := hW1 ▸ LineAt.new wr x _ _ rfl
   have hb1 : Below w.heap.size w W1 := hW1 ▸ hwr.alloc hwr.size _
   have hbR : ∀ d os, Below w.heap.size w (grow (redrawn W1 d) os) := fun d os => hb1.trans ((below_regrown W1 d os).mono hb1.size)
   have HBR : Hid (∀ d os, Below w.heap.size w (grow (redrawn W1 d) os)) := hbR
   have cC := fun d os => Calls.regrown_of (w := W1) (HC.out _ k x (hbR d os) hx)
   obtain ⟨f0, f1, f2, f3, f4⟩ := hl1
   simp only [Nat.zero_add] at f0 f1 f2 f3 f4
   have r0 := cell_regrown f0
   have r1 := cell_regrown f1
   have r2 := cell_regrown f2
   have r3 := cell_regrown f3
   have r4 := cell_regrown f4
   clear hx hwr hb1 hbR
   obtain ⟨⟨xz, xr, xb⟩, xl, xn⟩ := x
   unfold agN at cC
   simp only at c0 c1 c2 c3 c4 r0 r1 r2 r3 r4 f0 f1 f2 f3 f4 hW1 cC
   have hkc : (k : Int) ≤ (cap : Int) := by omega
   have hk0 : (0 : Int) ≤ (k : Int) := by omega
   have hkt : ((k : Int)).toNat = k := by omega
   by_cases hE : sheetE l k = 0
   ·have HN1 : Hid (∀ j, j < k + 1 → sheetE l j = 0) := fun j hj => by
     rcases Nat.lt_or_ge j k with q | q
     ·exact HNo.out j q
     ·obtain rfl : j = k := by omega
      exact hE
    rw [hE, errP_zero] at cC
    clear hE
    go_wp2
    clear f0 f1 f2 f3 f4 c0 c1 c2 c3 c4
    refine wp_region_quiet_below (by kernel_rfl) (by kernel_rfl) ?_
    repeat (quiet_step (first | (go_at_call 41; exact cC _ _)))
    refine wpQuiet_nil ?_
    intro _ hw'
    obtain ⟨⟨dq, osq⟩, hw''⟩ := hw'
    subst hw''
    have HBE : Hid (Below w.heap.size w _) := HBR.out dq osq
    go_wp2
    go_roundw
    case rel => exact ⟨k + 1, by omega, by go_num, HN1.out, HBE.out⟩
    case measure => simp [RowKit.intOf]; omega
   ·have HE : Hid (sheetE l k ≠ 0) := hE
    rw [errP_pos s hE] at cC
    clear hE
    have HAd : Hid (s (sheetE l k - 1) = s (sheetE l k - 1)) := rfl
    generalize had : s (sheetE l k - 1) = ad at cC
    have HA : Hid (s (sheetE l k - 1) = ad) := had
    clear had
    go_wp2
    clear f0 f1 f2 f3 f4 c0 c1 c2 c3 c4
    refine wp_region_quiet_below (by kernel_rfl) (by kernel_rfl) ?_
    repeat (quiet_step (first | (go_at_call 41; exact cC _ _)))
    refine wpQuiet_nil ?_
    intro _ hw'
    obtain ⟨⟨dq, osq⟩, hw''⟩ := hw'
    subst hw''
    have HBE : Hid (Below w.heap.size w _) := HBR.out dq osq
    generalize grow (redrawn W1 dq) osq = W2 at *
    go_wp2
    go_ret
    exact ⟨Or.inr ⟨k, hlt, HNo.out, HE.out, _, rfl, _, rfl, by simp, by rw [HA.out]; simp⟩, HBE.out.alloc HBE.out.size _⟩
  ·go_wp2
   go_ret
   exact ⟨Or.inl ⟨fun j hj => HNo.out j (by omega), rfl⟩, HWr.out⟩
theorem countK_any (s : Nat → Addr) : CountK s where
 check W pp l cap hs h hc h30 hz := ccheck_any pp l cap W s hs h hc (by omega) hz
 due W c last day hl hd := cdue_any c last day hl hd W
end Go.Proofs.YtppodkkefegbkaaGreatDoor
