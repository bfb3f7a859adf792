/-
 What Put answers and leaves: n pieces more of a lot at a place, or an error and no turn; nothing else that is old is turned.
-/
import Derived.Test.YteomomeigbfeoaaGreatDoorJz3
import Derived.Laws.StructEq
import Derived.Test.YteomomeigbfeoaaGreatDoorJz2
import Derived.Lib.SmallJoins
import Derived.BigQuiet
import Derived.Test.YteomomeigbfeoaaGreatDoorGenK
import Derived.Deep.RegionHeld3
import Derived.Test.YteomomeigbfeoaaGreatDoorKBuild
import Derived.Test.YteomomeigbfeoaaGreatDoorKRLb
import Derived.Test.YteomomeigbfeoaaGreatDoorKRLc
import Derived.Test.YteomomeigbfeoaaGreatDoorKRLd
set_option maxRecDepth 100000
set_option maxHeartbeats 16000000
namespace Go.Proofs.YteomomeigbfeoaaGreatDoor
open Go.RowKit Go.Lib Go.Sort
open Go.Maps (Keyed)
theorem putL_err {m : List Ln} {x : Pl} {c : ByteArray} {n : Int} (h : putE m x c n ≠ 0) : putL m x c n = m := by unfold putL; rw [if_neg h]
theorem putL_zero {m : List Ln} {x : Pl} {c : ByteArray} {n : Int} (h : putE m x c n = 0) : putL m x c n = withL m (x, c) (atL m (x, c) + n) := by unfold putL; rw [if_pos h]
theorem putE_place {m : List Ln} {x : Pl} {c : ByteArray} {n : Int} (h : placeErr x ≠ 0) : putE m x c n = placeErr x := by unfold putE; rw [if_neg h]
theorem putE_name {m : List Ln} {x : Pl} {c : ByteArray} {n : Int} (h : placeErr x = 0) (h1 : isName c.data.toList = false) : putE m x c n = 5 := by unfold putE; rw [if_pos h, h1]; rfl
theorem putE_num {m : List Ln} {x : Pl} {c : ByteArray} {n : Int} (h : placeErr x = 0) (h1 : isName c.data.toList = true) (h2 : numW n = false ∨ 1099511627776 < ofL m c + n) : putE m x c n = 2 := by
 unfold putE; rw [if_pos h, if_pos h1, if_neg]
 simp only [Bool.and_eq_true, decide_eq_true_eq]
 rintro ⟨a, b⟩
 rcases h2 with h2 | h2
 ·rw [a] at h2; cases h2
 ·omega
theorem putE_full {m : List Ln} {x : Pl} {c : ByteArray} {n : Int} (h : placeErr x = 0) (h1 : isName c.data.toList = true) (h2 : numW n = true) (h3 : ofL m c + n ≤ 1099511627776) : putE m x c n = if atL m (x, c) = 0 ∧ 200 ≤ m.length then 8 else 0 := by
 unfold putE; rw [if_pos h, if_pos h1, if_pos]
 simp [h2, h3]
abbrev boxP (w : World) (x : Pl) : World := w.alloc (.cells #[.string x.1, .int .i64 x.2.1, .int .i64 x.2.2] 28)
theorem boxP_below (w : World) (x : Pl) : Below w.heap.size w (boxP w x) := (Below.refl _ w).alloc (Nat.le_refl _) _
theorem put_place (x : Pl) (c : ByteArray) (n : Int) (w : World) (s : Nat → Addr) (p : Nat) (hz : x.1.size ≤ maxLen) (hs : Five w s) (h0 : placeErr x ≠ 0) :
  Calls Tryz.prog 116 #[.pointer (some ⟨p, 0, none⟩), agP x, .string c, .int .i64 n] w fun e w' => e = .returned (errP s (placeErr x)) ∧ Below w.heap.size w w' := by
 have hB := boxP_below w x
 have hC := pcheck_any x _ s hz (hs.two.below hB)
 rw [errP_pos s h0] at hC ⊢
 generalize s (placeErr x - 1) = ad at *
 clear hs hz h0
 obtain ⟨a, r, bb⟩ := x
 unfold agP boxP at *
 simp only at *
 have HC : Hid (Calls Tryz.prog 118 _ _ _) := hC
 have HB : Hid (Below _ _ _) := hB
 clear hC hB
 go_enter Tryz.func116, Tryz.ntmps116
 go_wp2_with (go_at_call 118; refine HC.out.mono ?_; rintro e w1 ⟨rfl, hb⟩)
 go_ret
 exact ⟨rfl, HB.out.trans (hb.mono HB.out.size)⟩
theorem put_name (x : Pl) (c : ByteArray) (n : Int) (w : World) (s : Nat → Addr) (p : Nat) (hz : x.1.size ≤ maxLen) (hz' : c.size ≤ maxLen) (hs : Five w s) (h0 : placeErr x = 0) (h1 : isName c.data.toList = false) :
  Calls Tryz.prog 116 #[.pointer (some ⟨p, 0, none⟩), agP x, .string c, .int .i64 n] w fun e w' => e = .returned (err (s 4)) ∧ Below w.heap.size w w' := by
 have hB := boxP_below w x
 have hC := pcheck_any x _ s hz (hs.two.below hB)
 rw [h0, errP_zero] at hC
 have hN : ∀ w, Calls Tryz.prog 114 #[.string c] w _ := fun w => name_any c w hz'
 rw [h1] at hN
 have hg := fun w1 (hb : Below w.heap.size w w1) => (hs.two.below hb).name
 clear hs hz hz' h0 h1
 obtain ⟨a, r, bb⟩ := x
 unfold agP boxP at *
 simp only at *
 have HC : Hid (Calls Tryz.prog 118 _ _ _) := hC
 have HB : Hid (Below _ _ _) := hB
 clear hC hB
 go_enter Tryz.func116, Tryz.ntmps116
 go_wp2_with (first
  | (go_at_call 118; refine HC.out.mono ?_; rintro e w1 ⟨rfl, hb⟩; have g := hg w1 (HB.out.trans (hb.mono HB.out.size)))
  | (go_at_call 114; refine (hN _).mono ?_; rintro e w2 ⟨rfl, rfl⟩))
 go_ret
 exact ⟨rfl, HB.out.trans (hb.mono HB.out.size)⟩
theorem put_num (x : Pl) (c : ByteArray) (n : Int) (w : World) (s : Nat → Addr) (p b : Nat) (m : List Ln) (h : IsStock w p b m) (hz : x.1.size ≤ maxLen) (hz' : c.size ≤ maxLen) (hs : Five w s) (h0 : placeErr x = 0) (h1 : isName c.data.toList = true) (h2 : numW n = false ∨ (numW n = true ∧ 1099511627776 < ofL m c + n)) :
  Calls Tryz.prog 116 #[.pointer (some ⟨p, 0, none⟩), agP x, .string c, .int .i64 n] w fun e w' => e = .returned (err (s 1)) ∧ Below w.heap.size w w' := by
 have hB := boxP_below w x
 have hC := pcheck_any x _ s hz (hs.two.below hB)
 rw [h0, errP_zero] at hC
 have hN : ∀ w, Calls Tryz.prog 114 #[.string c] w _ := fun w => name_any c w hz'
 rw [h1] at hN
 have hg := fun w1 (hb : Below w.heap.size w w1) => (hs.two.below hb).bound
 have hW := fun w => numWell_any n w
 have hO := fun w1 (hb : Below w.heap.size w w1) => of_any c w1 p b m (h.all hb)
 obtain ⟨o1, o2⟩ := h.wf.of_bound c
 clear hs hz hz' h0 h1 h
 generalize ofL m c = O at *
 obtain ⟨a, r, bb⟩ := x
 unfold agP boxP at *
 simp only at *
 have HC : Hid (Calls Tryz.prog 118 _ _ _) := hC
 have HB : Hid (Below _ _ _) := hB
 clear hC hB
 rcases h2 with h2 | ⟨h2, h3⟩
 ·rw [h2] at hW
  clear hO
  go_enter Tryz.func116, Tryz.ntmps116
  go_wp2_with (first
   | (go_at_call 118; refine HC.out.mono ?_; rintro e w1 ⟨rfl, hb⟩; have g := hg w1 (HB.out.trans (hb.mono HB.out.size)))
   | (go_at_call 114; refine (hN _).mono ?_; rintro e w2 ⟨rfl, rfl⟩)
   | (go_at_call 115; refine (hW _).mono ?_; rintro e w3 ⟨rfl, rfl⟩))
  go_ret
  exact ⟨rfl, HB.out.trans (hb.mono HB.out.size)⟩
 ·have hn := (numW_iff n).1 h2
  rw [h2] at hW
  obtain ⟨n1, n2⟩ := hn
  go_enter Tryz.func116, Tryz.ntmps116
  go_wp2_with (first
   | (go_at_call 118; refine HC.out.mono ?_; rintro e w1 ⟨rfl, hb⟩; have hb1 : Below w.heap.size w w1 := HB.out.trans (hb.mono HB.out.size))
   | (go_at_call 114; refine (hN _).mono ?_; rintro e w2 ⟨rfl, rfl⟩)
   | (go_at_call 115; refine (hW _).mono ?_; rintro e w3 ⟨rfl, rfl⟩)
   | (go_at_call 22; refine (hO _ hb1).mono ?_; rintro e w4 ⟨rfl, hb4⟩; have hb5 : Below w.heap.size w w4 := hb1.trans (hb4.mono hb1.size); have g := hg w4 hb5))
  go_ret
  exact ⟨rfl, hb5⟩
theorem keyOk_of {x : Pl} {c : ByteArray} (h0 : placeErr x = 0) (hz : x.1.size ≤ maxLen) (hz' : c.size ≤ maxLen) : KeyOk (x, c) := by
 obtain ⟨_, a1, a2, a3, a4⟩ := okP_bounds ((okP_err x).2 h0)
 obtain ⟨a, r, bb⟩ := x
 simp only at a1 a2 a3 a4
 exact ⟨hz, WalkArith.wf_i64 (show _ ≤ r ∧ r ≤ _ by omega), WalkArith.wf_i64 (show _ ≤ bb ∧ bb ≤ _ by omega), hz'⟩
theorem put_in (x : Pl) (c : ByteArray) (n : Int) (w : World) (s : Nat → Addr) (p b : Nat) (m : List Ln) (h : IsStock w p b m) (hz : x.1.size ≤ maxLen) (hz' : c.size ≤ maxLen) (hs : Five w s) (h0 : placeErr x = 0) (h1 : isName c.data.toList = true) (h2 : numW n = true) (h3 : ofL m c + n ≤ 1099511627776) :
  Calls Tryz.prog 116 #[.pointer (some ⟨p, 0, none⟩), agP x, .string c, .int .i64 n] w fun e w' => e = .returned (errP s (putE m x c n)) ∧ IsStock w' p b (putL m x c n) ∧ w.grownBy w' (some b) := by
 have hB := boxP_below w x
 have hbx : BoxAt w.heap.size x (boxP w x) := BoxAt.new w x _ _ rfl
 have hC := pcheck_any x _ s hz (hs.two.below hB)
 rw [h0, errP_zero] at hC
 have hN : ∀ w, Calls Tryz.prog 114 #[.string c] w _ := fun w => name_any c w hz'
 rw [h1] at hN
 have hW := fun w => numWell_any n w
 rw [h2] at hW
 have hO := fun w1 (hb : Below w.heap.size w w1) => of_any c w1 p b m (h.all hb)
 obtain ⟨o1, o2⟩ := h.wf.of_bound c
 obtain ⟨n1, n2⟩ := (numW_iff n).1 h2
 have hk : KeyOk (x, c) := keyOk_of h0 hz hz'
 have HE := putE_full (m := m) (n := n) h0 h1 h2 h3
 have hv0 := h.wf.at_nonneg (x, c)
 have hv1 : atL m (x, c) ≤ 1099511627776 := Int.le_trans (h.wf.at_le (x, c)) (h.wf.most _)
 have HF : Hid (∀ w4, Below w.heap.size w w4 → IsStock w4 p b m) := fun w4 hb => h.all hb
 have HV : Hid (∀ w4, Below w.heap.size w w4 → Five w4 s) := fun w4 hb => hs.below hb
 have hpb : Hid (p ≠ b) := h.ne
 have hlb : Hid (b < w.heap.size) := h.lt.2
 have HP := h.wf.put x c n
 have HK : Hid (KeyOk (x, c)) := hk
 have HA : Hid (atL m (x, c) + n ≤ 9223372036854775807) := by have := h.wf.at_le (x, c); show _ ≤ _; omega
 clear hs hz hz' h0 h1 h hk
 generalize hO' : ofL m c = O at *
 have HO' : Hid (ofL m c = O) := hO'
 clear hO'
 obtain ⟨a, r, bb⟩ := x
 unfold agP boxP at *
 simp only at *
 have HC : Hid (Calls Tryz.prog 118 _ _ _) := hC
 have HB : Hid (Below _ _ _) := hB
 have HE' : Hid (putE m (a, r, bb) c n = _) := HE
 have HP' : Hid (Wf _) := HP
 clear hC hB HE HP
 obtain ⟨v, hv⟩ : ∃ v, v = atL m ((a, r, bb), c) := ⟨_, rfl⟩
 rw [← hv] at hv0 hv1
 have Hv : Hid (v = atL m ((a, r, bb), c)) := hv
 clear hv
 go_enter Tryz.func116, Tryz.ntmps116
 go_wp2_with (first
  | (go_at_call 118; refine HC.out.mono ?_; rintro e w1 ⟨rfl, hb⟩; have hb1 : Below w.heap.size w w1 := HB.out.trans (hb.mono HB.out.size); have hbx1 := hbx.below hb)
  | (go_at_call 114; refine (hN _).mono ?_; rintro e w2 ⟨rfl, rfl⟩)
  | (go_at_call 115; refine (hW _).mono ?_; rintro e w3 ⟨rfl, rfl⟩)
  | (go_at_call 22; refine (hO _ hb1).mono ?_; rintro e w4 ⟨rfl, hb4⟩; obtain ⟨y0, y1, y2⟩ := hbx1.below hb4; simp only at y0 y1 y2; have hb5 : Below w.heap.size w w4 := hb1.trans (hb4.mono hb1.size)))
 have hbS : BoxS w4.heap.size ((a, r, bb), c) (w4.alloc (.cells #[.string a, .int .i64 r, .int .i64 bb, .string c] 118)) := BoxS.new w4 ((a, r, bb), c) _ _ rfl
 have hbW : Below w.heap.size w (w4.alloc (.cells #[.string a, .int .i64 r, .int .i64 bb, .string c] 118)) := hb5.alloc hb5.size _
 have hqb : w4.heap.size ≠ b := fun e => by have := hlb.out; have := hb5.size; omega
 clear y0 y1 y2 hb5 hb4 hb1 hb hbx1 hbx hO hN hW HB HC
 generalize w4.alloc (.cells #[.string a, .int .i64 r, .int .i64 bb, .string c] 118) = W at *
 generalize w4.heap.size = q at *
 have hSt := HF.out W hbW
 have hl : ∀ k, (Instr.lookup 114 (.map (some b)) (.agg #[.string a, .int .i64 r, .int .i64 bb, .string c]) false).run Tryz.prog (W.drewN k) = .ok (.int .i64 v) (W.drewN k) := fun k => by rw [Hv.out]; exact hSt.looks HK.out k
 obtain ⟨ln, hes⟩ : ∃ ln : Nat, ln = m.length := ⟨_, rfl⟩
 have ho : ∀ k, (Builtin.len_ #[114] 3 #[.map (some b)]).run Tryz.prog (W.drewN k) = .ok (.int .i64 ln) (W.drewN k) := fun k => by
  have := (hSt.drew k).map.len Tryz.underlying114 3
  rw [List.length_map, ← hes] at this
  exact this
 have hlen := hSt.wf.len
 have hc := hSt.cell
 have HS : Hid (IsStock W p b m) := hSt
 have HL : Hid (ln = m.length) := hes
 have hg := (HV.out W hbW).full
 have HbW : Hid (Below w.heap.size w W) := hbW
 have hl200 : ln ≤ 200 := by rw [hes]; exact hlen
 obtain ⟨x0, x1, x2, x3⟩ := hbS
 have HBS : Hid (BoxS q ((a, r, bb), c) W) := ⟨x0, x1, x2, x3⟩
 simp only at x0 x1 x2 x3
 clear hSt hbW hlen hes
 by_cases hf : v = 0 ∧ 200 ≤ ln
 ·obtain ⟨f1, f2⟩ := hf
  have e1 : (v == 0) = true := by simpa using f1
  have hd : decide (200 ≤ ln) = true := decide_eq_true f2
  have HZ : Hid (putE m (a, r, bb) c n = 8) := by
   show _ = _
   rw [HE'.out, if_pos ⟨by rw [← Hv.out]; exact f1, by rw [← HL.out]; exact f2⟩]
  clear f1
  go_quiet (fail)
  go_wp2
  go_ret
  refine ⟨by rw [HZ.out]; rfl, ?_, grown_trans (Below.grownAll HbW.out _) (grown_drewN _ _ _)⟩
  rw [putL_err (by rw [HZ.out]; decide)]
  exact HS.out.drew _
 ·have HZ : Hid (putE m (a, r, bb) c n = 0) := by
   show _ = _
   rw [HE'.out, if_neg]
   rintro ⟨f1, f2⟩
   exact hf ⟨by rw [Hv.out]; exact f1, by rw [HL.out]; exact f2⟩
  have HQ : Hid (∀ k, ∃ w3, w.grownBy w3 (some b) ∧ IsStock w3 p b (putL m (a, r, bb) c n) ∧ ∃ (st : Nat) (w2 : World), (Instr.mapEntry 114 (.map (some b)) (.agg #[.string a, .int .i64 r, .int .i64 bb, .string c])).run Tryz.prog (W.drewN (k + 1)) = .ok (.tuple #[.int .i64 v, .int .i64 st]) w2 ∧ (Instr.lookup 114 (.map (some b)) (.agg #[.string a, .int .i64 r, .int .i64 bb, .string c]) false).run Tryz.prog w2 = .ok (.int .i64 v) w2 ∧ BoxS q ((a, r, bb), c) w2 ∧ w2.cell? ⟨p, 0, none⟩ = some (.map (some b)) ∧
    (Instr.entryStore 114 (.map (some b)) (.int .i64 st) (.int .i64 (v + n))).run Tryz.prog w2 = .ok () w3) := fun k => by
   have hS : IsStock (W.drewN (k + 1)) p b m := ⟨HS.out.cell, HS.out.map, HS.out.wf⟩
   obtain ⟨st, w2, g1, g2, g3, g4⟩ := hS.entry HK.out
   rw [← Hv.out] at g1 g2
   obtain ⟨w3, g5, g6, g7⟩ := g4 (v + n)
   have hne : v + n ≠ 0 := by omega
   refine ⟨w3, grown_trans (grown_trans (Below.grownAll HbW.out _) (grown_drewN _ (k + 1) _)) g7.grown, ⟨(turned_cell (p := ⟨p, 0, none⟩) g7 hpb.out).trans hS.cell, ?_, HP'.out⟩, st, w2, g1, g2, BoxS.of_block (W := W.drewN (k + 1)) (HBS.out.of_block rfl) (turned_block g3 hqb), (turned_cell (p := ⟨p, 0, none⟩) g3 hpb.out).trans hS.cell, g5⟩
   rw [putL_zero HZ.out, ← Hv.out]
   exact g6.perm ((withL_perm hne).symm.map entN)
  have hn9 := HA.out
  rw [← Hv.out] at hn9
  by_cases f1 : v = 0
  ·have e1 : (v == 0) = true := by simpa using f1
   have f2 : ln < 200 := Nat.lt_of_not_le fun f2 => hf ⟨f1, f2⟩
   have hd : decide (200 ≤ ln) = false := decide_eq_false (by omega)
   clear hf f1
   go_quiet (fail)
   go_wp2
   obtain ⟨w3, hg3, hS3, st, w2, g1, g2, ⟨z0, z1, z2, z3⟩, g4, g5⟩ := HQ.out nq
   simp only at z0 z1 z2 z3
   go_region
   go_wp2
   go_ret
   exact ⟨by rw [HZ.out]; rfl, hS3, hg3⟩
  ·have e1 : (v == 0) = false := by simpa using f1
   clear hf f1
   go_quiet (fail)
   go_wp2
   obtain ⟨w3, hg3, hS3, st, w2, g1, g2, ⟨z0, z1, z2, z3⟩, g4, g5⟩ := HQ.out nq
   simp only at z0 z1 z2 z3
   go_region
   go_wp2
   go_ret
   exact ⟨by rw [HZ.out]; rfl, hS3, hg3⟩
theorem put_any (x : Pl) (c : ByteArray) (n : Int) (w : World) (s : Nat → Addr) (p b : Nat) (m : List Ln) (h : IsStock w p b m) (hz : x.1.size ≤ maxLen) (hz' : c.size ≤ maxLen) (hs : Five w s) :
  Calls Tryz.prog 116 #[.pointer (some ⟨p, 0, none⟩), agP x, .string c, .int .i64 n] w fun e w' => e = .returned (errP s (putE m x c n)) ∧ IsStock w' p b (putL m x c n) ∧ w.grownBy w' (some b) := by
 by_cases h0 : placeErr x = 0
 ·cases h1 : isName c.data.toList with
  | false =>
   have e := putE_name (m := m) (n := n) h0 h1
   rw [putL_err (by rw [e]; decide), e]
   exact (put_name x c n w s p hz hz' hs h0 h1).mono fun e w' ⟨he, hb⟩ => ⟨he, h.all hb, Below.grownAll hb _⟩
  | true =>
   cases h2 : numW n with
   | false =>
    have e := putE_num (m := m) (n := n) h0 h1 (Or.inl h2)
    rw [putL_err (by rw [e]; decide), e]
    exact (put_num x c n w s p b m h hz hz' hs h0 h1 (Or.inl h2)).mono fun e w' ⟨he, hb⟩ => ⟨he, h.all hb, Below.grownAll hb _⟩
   | true =>
    by_cases h3 : ofL m c + n ≤ 1099511627776
    ·exact put_in x c n w s p b m h hz hz' hs h0 h1 h2 h3
    ·have h4 : 1099511627776 < ofL m c + n := by omega
     have e := putE_num (m := m) (n := n) h0 h1 (Or.inr h4)
     rw [putL_err (by rw [e]; decide), e]
     exact (put_num x c n w s p b m h hz hz' hs h0 h1 (Or.inr ⟨h2, h4⟩)).mono fun e w' ⟨he, hb⟩ => ⟨he, h.all hb, Below.grownAll hb _⟩
 ·have e := putE_place (m := m) (c := c) (n := n) h0
  rw [putL_err (by rw [e]; exact h0), e]
  exact (put_place x c n w s p hz hs h0).mono fun e w' ⟨he, hb⟩ => ⟨he, h.all hb, Below.grownAll hb _⟩
theorem Tryz.guardK : Tryz.prog.eqGuardType Tryz.prog.depth 28 = false := by kernel_rfl
theorem eqK_run (x y : Pl) (w : World) : (Op.equalIn 10000 28 (.agg #[.string x.1, .int .i64 x.2.1, .int .i64 x.2.2]) (.agg #[.string y.1, .int .i64 y.2.1, .int .i64 y.2.2])).run Tryz.prog w = .ok (decide (x = y)) w := by
 obtain ⟨a, r, b⟩ := x
 obtain ⟨a', r', b'⟩ := y
 have u3 := Tryz.underlying3
 have a3 := Tryz.isAgg3
 have z3 := Tryz.sizeOf3
 have u9 := Tryz.underlying9
 have a9 := Tryz.isAgg9
 have z9 := Tryz.sizeOf9
 have hS : Tryz.prog.underlying 28 = some (.struct (Tryz.prog.fieldsOf 28)) := by kernel_rfl
 have hp : Tryz.prog.stoodInHeld 28 = false := by kernel_rfl
 rw [show (10000 : Nat) = 9999 + 1 from rfl, run_equalIn_agg w 9999 28 _ _ hS hp]
 simp only [Program.fieldsOf, Tryz.underlying28]
 have e3 := same_eq a a'
 go_simp
 by_cases h1 : a = a' <;> by_cases h2 : r = r' <;> by_cases h3 : b = b' <;> simp [h1, h2, h3]
theorem moveE_take {m : List Ln} {x y : Pl} {c : ByteArray} {n : Int} (h : takeE m (x, c) n ≠ 0) : moveE m x y c n = takeE m (x, c) n := by unfold moveE; rw [if_neg h]
theorem moveE_place {m : List Ln} {x y : Pl} {c : ByteArray} {n : Int} (h : takeE m (x, c) n = 0) (h1 : placeErr y ≠ 0) : moveE m x y c n = placeErr y := by unfold moveE; rw [if_pos h, if_neg h1]
theorem moveE_shape {m : List Ln} {x y : Pl} {c : ByteArray} {n : Int} (h : takeE m (x, c) n = 0) (h1 : placeErr y = 0) (h2 : x = y) : moveE m x y c n = 3 := by unfold moveE; rw [if_pos h, if_pos h1, if_pos h2]
theorem moveE_full {m : List Ln} {x y : Pl} {c : ByteArray} {n : Int} (h : takeE m (x, c) n = 0) (h1 : placeErr y = 0) (h2 : x ≠ y) : moveE m x y c n = if 200 < linesA m (x, c) (y, c) n then 8 else 0 := by unfold moveE; rw [if_pos h, if_pos h1, if_neg h2]
theorem moveL_err {m : List Ln} {x y : Pl} {c : ByteArray} {n : Int} (h : moveE m x y c n ≠ 0) : moveL m x y c n = m := by unfold moveL; rw [if_neg h]
theorem moveL_zero {m : List Ln} {x y : Pl} {c : ByteArray} {n : Int} (h : moveE m x y c n = 0) : moveL m x y c n = withL (withL m (x, c) (atL m (x, c) - n)) (y, c) (atL m (y, c) + n) := by unfold moveL; rw [if_pos h]
structure MoveW (w W : World) (x y : Pl) (c : ByteArray) (q q' : Nat) : Prop where
 below : Below w.heap.size w W
 bx : BoxAt w.heap.size x W
 by_ : BoxAt (w.heap.size + 1) y W
 hs : BoxS q (x, c) W
 ht : BoxS q' (y, c) W
 hq' : w.heap.size ≤ q'
theorem MoveW.later {w W W' : World} {x y : Pl} {c : ByteArray} {q q' : Nat} (h : MoveW w W x y c q q') (hb : Below W.heap.size W W') : MoveW w W' x y c q q' :=
 ⟨h.below.trans (hb.mono h.below.size), h.bx.below hb, h.by_.below hb, h.hs.below hb, h.ht.below hb, h.hq'⟩
theorem MoveW.ne {w W : World} {x y : Pl} {c : ByteArray} {q q' b : Nat} (h : MoveW w W x y c q q') (hb : b < w.heap.size) : q' ≠ b := fun e => by have := h.hq'; omega
theorem moveW0 (w : World) (x y : Pl) : Below w.heap.size w (boxTwo w x y) ∧ BoxAt w.heap.size x (boxTwo w x y) ∧ BoxAt (w.heap.size + 1) y (boxTwo w x y) ∧ (boxTwo w x y).heap.size = w.heap.size + 1 + 1 := ⟨boxTwo_below w x y, boxTwo_first w x y, boxTwo_second w x y, by simp⟩
theorem moveW_any (w W : World) (x y : Pl) (k k' : Sp) (hw : Below w.heap.size w W ∧ BoxAt w.heap.size x W ∧ BoxAt (w.heap.size + 1) y W ∧ W.heap.size = w.heap.size + 1 + 1) :
  Below w.heap.size w (boxSS W k k').drew ∧ BoxAt w.heap.size x (boxSS W k k').drew ∧ BoxAt (w.heap.size + 1) y (boxSS W k k').drew ∧ BoxS (w.heap.size + 1 + 1) k (boxSS W k k').drew ∧ BoxS (w.heap.size + 1 + 1 + 1) k' (boxSS W k k').drew := by
 obtain ⟨h1, h2, h3, h4⟩ := hw
 have hB : Below W.heap.size W (boxSS W k k').drew := (((Below.refl _ W).alloc (Nat.le_refl _) _).alloc (by simp) _).drew
 refine ⟨h1.trans (hB.mono h1.size), h2.below hB, h3.below hB, ?_, ?_⟩
 ·exact ((BoxS.new W k _ _ h4.symm).below ((Below.refl _ _).alloc (Nat.le_refl _) _)).of_block rfl
 ·exact (BoxS.new _ k' _ _ (by simp [h4])).of_block rfl
theorem moveW1 (w : World) (x y : Pl) (c : ByteArray) : MoveW w (((((w.alloc (.cells #[.string x.1, .int .i64 x.2.1, .int .i64 x.2.2] 28)).alloc (.cells #[.string y.1, .int .i64 y.2.1, .int .i64 y.2.2] 28)).alloc (.cells #[.string x.1, .int .i64 x.2.1, .int .i64 x.2.2, .string c] 118)).alloc (.cells #[.string y.1, .int .i64 y.2.1, .int .i64 y.2.2, .string c] 118)).drew) x y c (w.heap.size + 1 + 1) (w.heap.size + 1 + 1 + 1) := by
 obtain ⟨h1, h2, h3, h4, h5⟩ := moveW_any w _ x y (x, c) (y, c) (moveW0 w x y)
 exact ⟨h1, h2, h3, h4, h5, by omega⟩
theorem moveW2 (w : World) (x y : Pl) (c : ByteArray) : MoveW w (((((w.alloc (.cells #[.string x.1, .int .i64 x.2.1, .int .i64 x.2.2] 28)).alloc (.cells #[.string y.1, .int .i64 y.2.1, .int .i64 y.2.2] 28)).alloc (.cells #[.string y.1, .int .i64 y.2.1, .int .i64 y.2.2, .string c] 118)).alloc (.cells #[.string x.1, .int .i64 x.2.1, .int .i64 x.2.2, .string c] 118)).drew) x y c (w.heap.size + 1 + 1 + 1) (w.heap.size + 1 + 1) := by
 obtain ⟨h1, h2, h3, h4, h5⟩ := moveW_any w _ x y (y, c) (x, c) (moveW0 w x y)
 exact ⟨h1, h2, h3, h5, h4, by omega⟩
theorem IsStock.add {w : World} {p b : Nat} {m : List Ln} (h : IsStock w p b m) {k : Sp} (hk : KeyOk k) {n : Int} (hw : Wf (withL m k (atL m k + n))) (hn : atL m k + n ≠ 0) {q : Nat} (hq : BoxS q k w) (hqb : q ≠ b) :
  ∃ w5, w.grownBy w5 (some b) ∧ IsStock w5 p b (withL m k (atL m k + n)) ∧ ∃ (st : Nat) (w4 : World), (Instr.mapEntry 114 (.map (some b)) (agS k)).run Tryz.prog w = .ok (.tuple #[.int .i64 (atL m k), .int .i64 st]) w4 ∧ (Instr.lookup 114 (.map (some b)) (agS k) false).run Tryz.prog w4 = .ok (.int .i64 (atL m k)) w4 ∧ BoxS q k w4 ∧ w4.cell? ⟨p, 0, none⟩ = some (.map (some b)) ∧
   (Instr.entryStore 114 (.map (some b)) (.int .i64 st) (.int .i64 (atL m k + n))).run Tryz.prog w4 = .ok () w5 := by
 obtain ⟨st, w4, g1, g2, g3, g4⟩ := h.entry hk
 obtain ⟨w5, g5, g6, g7⟩ := g4 (atL m k + n)
 have hpb := h.ne
 exact ⟨w5, g7.grown, ⟨(turned_cell (p := ⟨p, 0, none⟩) g7 hpb).trans h.cell, g6.perm ((withL_perm hn).symm.map entN), hw⟩, st, w4, g1, g2, hq.of_block (turned_block g3 hqb), (turned_cell (p := ⟨p, 0, none⟩) g3 hpb).trans h.cell, g5⟩
theorem move_take (x y : Pl) (c : ByteArray) (n : Int) (w : World) (s : Nat → Addr) (p b : Nat) (m : List Ln) (h : IsStock w p b m) (hk : KeyOk (x, c)) (hs : Five w s) (h0 : takeE m (x, c) n ≠ 0) :
  Calls Tryz.prog 139 #[.pointer (some ⟨p, 0, none⟩), agP x, agP y, .string c, .int .i64 n] w fun e w' => e = .returned (errP s (takeE m (x, c) n)) ∧ Below w.heap.size w w' := by
 have HC : Hid (∀ W, Below w.heap.size w W → Calls Tryz.prog 171 #[.pointer (some ⟨p, 0, none⟩), agS (x, c), .int .i64 n] W fun e w' => e = .returned (errP s (takeE m (x, c) n)) ∧ Below W.heap.size W w') := fun W hb => checkTake_any (x, c) n W s p b m (h.all hb) hk (hs.below hb)
 rw [errP_pos s h0] at HC ⊢
 generalize s (takeE m (x, c) n - 1) = ad at *
 clear hs hk h h0
 obtain ⟨a, r, bb⟩ := x
 obtain ⟨a', r', bb'⟩ := y
 unfold agP agS at *
 simp only at *
 go_enter Tryz.func139, Tryz.ntmps139
 go_wp2
 go_region
 ·have hM := moveW1 w (a, r, bb) (a', r', bb') c
  simp only at hM
  generalize (((((w.alloc (.cells #[.string a, .int .i64 r, .int .i64 bb] 28)).alloc (.cells #[.string a', .int .i64 r', .int .i64 bb'] 28)).alloc (.cells #[.string a, .int .i64 r, .int .i64 bb, .string c] 118)).alloc (.cells #[.string a', .int .i64 r', .int .i64 bb', .string c] 118)).drew) = W at hM ⊢
  generalize w.heap.size + 1 + 1 + 1 = q3 at hM ⊢
  generalize w.heap.size + 1 + 1 = q2 at hM ⊢
  obtain ⟨h0, h1, h2, h3⟩ := hM.hs
  simp only at h0 h1 h2 h3
  go_wp2_with (go_at_call 171; refine (HC.out _ hM.below).mono ?_; rintro e w1 ⟨rfl, hb1⟩)
  go_ret
  exact ⟨rfl, (hM.later hb1).below⟩
 ·have hM := moveW2 w (a, r, bb) (a', r', bb') c
  simp only at hM
  generalize (((((w.alloc (.cells #[.string a, .int .i64 r, .int .i64 bb] 28)).alloc (.cells #[.string a', .int .i64 r', .int .i64 bb'] 28)).alloc (.cells #[.string a', .int .i64 r', .int .i64 bb', .string c] 118)).alloc (.cells #[.string a, .int .i64 r, .int .i64 bb, .string c] 118)).drew) = W at hM ⊢
  generalize w.heap.size + 1 + 1 + 1 = q3 at hM ⊢
  generalize w.heap.size + 1 + 1 = q2 at hM ⊢
  obtain ⟨h0, h1, h2, h3⟩ := hM.hs
  simp only at h0 h1 h2 h3
  go_wp2_with (go_at_call 171; refine (HC.out _ hM.below).mono ?_; rintro e w1 ⟨rfl, hb1⟩)
  go_ret
  exact ⟨rfl, (hM.later hb1).below⟩
theorem move_place (x y : Pl) (c : ByteArray) (n : Int) (w : World) (s : Nat → Addr) (p b : Nat) (m : List Ln) (h : IsStock w p b m) (hk : KeyOk (x, c)) (hz : y.1.size ≤ maxLen) (hs : Five w s) (t0 : takeE m (x, c) n = 0) (h0 : placeErr y ≠ 0) :
  Calls Tryz.prog 139 #[.pointer (some ⟨p, 0, none⟩), agP x, agP y, .string c, .int .i64 n] w fun e w' => e = .returned (errP s (placeErr y)) ∧ Below w.heap.size w w' := by
 have HC : Hid (∀ W, Below w.heap.size w W → Calls Tryz.prog 171 #[.pointer (some ⟨p, 0, none⟩), agS (x, c), .int .i64 n] W fun e w' => e = .returned (errP s (takeE m (x, c) n)) ∧ Below W.heap.size W w') := fun W hb => checkTake_any (x, c) n W s p b m (h.all hb) hk (hs.below hb)
 have HP : Hid (∀ W, Below w.heap.size w W → Calls Tryz.prog 118 #[agP y] W fun e w' => e = .returned (errP s (placeErr y)) ∧ Below W.heap.size W w') := fun W hb => pcheck_any y W s hz (hs.two.below hb)
 rw [t0, errP_zero] at HC
 rw [errP_pos s h0] at HP ⊢
 generalize s (placeErr y - 1) = ad at *
 clear hs hk hz h h0 t0
 obtain ⟨a, r, bb⟩ := x
 obtain ⟨a', r', bb'⟩ := y
 unfold agP agS at *
 simp only at *
 go_enter Tryz.func139, Tryz.ntmps139
 go_wp2
 go_region
 ·have hM := moveW1 w (a, r, bb) (a', r', bb') c
  simp only at hM
  generalize (((((w.alloc (.cells #[.string a, .int .i64 r, .int .i64 bb] 28)).alloc (.cells #[.string a', .int .i64 r', .int .i64 bb'] 28)).alloc (.cells #[.string a, .int .i64 r, .int .i64 bb, .string c] 118)).alloc (.cells #[.string a', .int .i64 r', .int .i64 bb', .string c] 118)).drew) = W at hM ⊢
  generalize w.heap.size + 1 + 1 + 1 = q3 at hM ⊢
  generalize w.heap.size + 1 + 1 = q2 at hM ⊢
  obtain ⟨h0, h1, h2, h3⟩ := hM.hs
  simp only at h0 h1 h2 h3
  go_wp2_with (first
   | (go_at_call 171; refine (HC.out _ hM.below).mono ?_; rintro e w1 ⟨rfl, hb1⟩; have hM1 := hM.later hb1; obtain ⟨y0, y1, y2⟩ := hM1.by_; simp only at y0 y1 y2)
   | (go_at_call 118; refine (HP.out _ hM1.below).mono ?_; rintro e w2 ⟨rfl, hb2⟩))
  go_ret
  exact ⟨rfl, (hM1.later hb2).below⟩
 ·have hM := moveW2 w (a, r, bb) (a', r', bb') c
  simp only at hM
  generalize (((((w.alloc (.cells #[.string a, .int .i64 r, .int .i64 bb] 28)).alloc (.cells #[.string a', .int .i64 r', .int .i64 bb'] 28)).alloc (.cells #[.string a', .int .i64 r', .int .i64 bb', .string c] 118)).alloc (.cells #[.string a, .int .i64 r, .int .i64 bb, .string c] 118)).drew) = W at hM ⊢
  generalize w.heap.size + 1 + 1 + 1 = q3 at hM ⊢
  generalize w.heap.size + 1 + 1 = q2 at hM ⊢
  obtain ⟨h0, h1, h2, h3⟩ := hM.hs
  simp only at h0 h1 h2 h3
  go_wp2_with (first
   | (go_at_call 171; refine (HC.out _ hM.below).mono ?_; rintro e w1 ⟨rfl, hb1⟩; have hM1 := hM.later hb1; obtain ⟨y0, y1, y2⟩ := hM1.by_; simp only at y0 y1 y2)
   | (go_at_call 118; refine (HP.out _ hM1.below).mono ?_; rintro e w2 ⟨rfl, hb2⟩))
  go_ret
  exact ⟨rfl, (hM1.later hb2).below⟩
theorem move_shape (x y : Pl) (c : ByteArray) (n : Int) (w : World) (s : Nat → Addr) (p b : Nat) (m : List Ln) (h : IsStock w p b m) (hk : KeyOk (x, c)) (hz : y.1.size ≤ maxLen) (hs : Five w s) (t0 : takeE m (x, c) n = 0) (h0 : placeErr y = 0) (hxy : x = y) :
  Calls Tryz.prog 139 #[.pointer (some ⟨p, 0, none⟩), agP x, agP y, .string c, .int .i64 n] w fun e w' => e = .returned (err (s 2)) ∧ Below w.heap.size w w' := by
 have HC : Hid (∀ W, Below w.heap.size w W → Calls Tryz.prog 171 #[.pointer (some ⟨p, 0, none⟩), agS (x, c), .int .i64 n] W fun e w' => e = .returned (errP s (takeE m (x, c) n)) ∧ Below W.heap.size W w') := fun W hb => checkTake_any (x, c) n W s p b m (h.all hb) hk (hs.below hb)
 have HP : Hid (∀ W, Below w.heap.size w W → Calls Tryz.prog 118 #[agP y] W fun e w' => e = .returned (errP s (placeErr y)) ∧ Below W.heap.size W w') := fun W hb => pcheck_any y W s hz (hs.two.below hb)
 have hG := Tryz.guardK
 have HF : Hid (∀ W, Below w.heap.size w W → W.cell? ⟨0, 0, none⟩ = some (err (s 2))) := fun W hb => (hs.below hb).shape
 have hE := fun W => eqK_run x y W
 rw [t0, errP_zero] at HC
 rw [h0, errP_zero] at HP
 rw [decide_eq_true hxy] at hE
 clear hs hk hz h h0 t0 hxy
 obtain ⟨a, r, bb⟩ := x
 obtain ⟨a', r', bb'⟩ := y
 unfold agP agS at *
 simp only at *
 go_enter Tryz.func139, Tryz.ntmps139
 go_wp2
 go_region
 ·have hM := moveW1 w (a, r, bb) (a', r', bb') c
  simp only at hM
  generalize (((((w.alloc (.cells #[.string a, .int .i64 r, .int .i64 bb] 28)).alloc (.cells #[.string a', .int .i64 r', .int .i64 bb'] 28)).alloc (.cells #[.string a, .int .i64 r, .int .i64 bb, .string c] 118)).alloc (.cells #[.string a', .int .i64 r', .int .i64 bb', .string c] 118)).drew) = W at hM ⊢
  generalize w.heap.size + 1 + 1 + 1 = q3 at hM ⊢
  generalize w.heap.size + 1 + 1 = q2 at hM ⊢
  obtain ⟨h0, h1, h2, h3⟩ := hM.hs
  simp only at h0 h1 h2 h3
  go_wp2_with (first
   | (go_at_call 171; refine (HC.out _ hM.below).mono ?_; rintro e w1 ⟨rfl, hb1⟩; have hM1 := hM.later hb1; obtain ⟨y0, y1, y2⟩ := hM1.by_; simp only at y0 y1 y2)
   | (go_at_call 118; refine (HP.out _ hM1.below).mono ?_; rintro e w2 ⟨rfl, hb2⟩; have hM2 := hM1.later hb2; obtain ⟨x0, x1, x2⟩ := hM2.bx; obtain ⟨z0, z1, z2⟩ := hM2.by_; obtain ⟨k0, k1, k2, k3⟩ := hM2.hs; obtain ⟨l0, l1, l2, l3⟩ := hM2.ht; simp only at x0 x1 x2 z0 z1 z2 k0 k1 k2 k3 l0 l1 l2 l3; have g := HF.out _ hM2.below))
  go_ret
  exact ⟨rfl, hM2.below⟩
 ·have hM := moveW2 w (a, r, bb) (a', r', bb') c
  simp only at hM
  generalize (((((w.alloc (.cells #[.string a, .int .i64 r, .int .i64 bb] 28)).alloc (.cells #[.string a', .int .i64 r', .int .i64 bb'] 28)).alloc (.cells #[.string a', .int .i64 r', .int .i64 bb', .string c] 118)).alloc (.cells #[.string a, .int .i64 r, .int .i64 bb, .string c] 118)).drew) = W at hM ⊢
  generalize w.heap.size + 1 + 1 + 1 = q3 at hM ⊢
  generalize w.heap.size + 1 + 1 = q2 at hM ⊢
  obtain ⟨h0, h1, h2, h3⟩ := hM.hs
  simp only at h0 h1 h2 h3
  go_wp2_with (first
   | (go_at_call 171; refine (HC.out _ hM.below).mono ?_; rintro e w1 ⟨rfl, hb1⟩; have hM1 := hM.later hb1; obtain ⟨y0, y1, y2⟩ := hM1.by_; simp only at y0 y1 y2)
   | (go_at_call 118; refine (HP.out _ hM1.below).mono ?_; rintro e w2 ⟨rfl, hb2⟩; have hM2 := hM1.later hb2; obtain ⟨x0, x1, x2⟩ := hM2.bx; obtain ⟨z0, z1, z2⟩ := hM2.by_; obtain ⟨k0, k1, k2, k3⟩ := hM2.hs; obtain ⟨l0, l1, l2, l3⟩ := hM2.ht; simp only at x0 x1 x2 z0 z1 z2 k0 k1 k2 k3 l0 l1 l2 l3; have g := HF.out _ hM2.below))
  go_ret
  exact ⟨rfl, hM2.below⟩
theorem move_full (x y : Pl) (c : ByteArray) (n : Int) (w : World) (s : Nat → Addr) (p b : Nat) (m : List Ln) (h : IsStock w p b m) (hk : KeyOk (x, c)) (hz : y.1.size ≤ maxLen) (hz' : c.size ≤ maxLen) (hs : Five w s) (t0 : takeE m (x, c) n = 0) (h0 : placeErr y = 0) (hxy : x ≠ y) (hf : 200 < linesA m (x, c) (y, c) n) :
  Calls Tryz.prog 139 #[.pointer (some ⟨p, 0, none⟩), agP x, agP y, .string c, .int .i64 n] w fun e w' => e = .returned (err (s 7)) ∧ Below w.heap.size w w' := by
 have HC : Hid (∀ W, Below w.heap.size w W → Calls Tryz.prog 171 #[.pointer (some ⟨p, 0, none⟩), agS (x, c), .int .i64 n] W fun e w' => e = .returned (errP s (takeE m (x, c) n)) ∧ Below W.heap.size W w') := fun W hb => checkTake_any (x, c) n W s p b m (h.all hb) hk (hs.below hb)
 have HP : Hid (∀ W, Below w.heap.size w W → Calls Tryz.prog 118 #[agP y] W fun e w' => e = .returned (errP s (placeErr y)) ∧ Below W.heap.size W w') := fun W hb => pcheck_any y W s hz (hs.two.below hb)
 have hk' : KeyOk (y, c) := keyOk_of h0 hz hz'
 have HL : Hid (∀ W, Below w.heap.size w W → Calls Tryz.prog 173 #[.pointer (some ⟨p, 0, none⟩), agS (x, c), agS (y, c), .int .i64 n] W fun e w' => e = .returned (.int .i64 (linesA m (x, c) (y, c) n)) ∧ Below W.heap.size W w') := fun W hb => linesAfter_any (x, c) (y, c) n W p b m (h.all hb) hk hk'
 have hG := Tryz.guardK
 have HF : Hid (∀ W, Below w.heap.size w W → W.cell? ⟨5, 0, none⟩ = some (err (s 7))) := fun W hb => (hs.below hb).full
 have hE := fun W => eqK_run x y W
 rw [t0, errP_zero] at HC
 rw [h0, errP_zero] at HP
 rw [decide_eq_false hxy] at hE
 generalize linesA m (x, c) (y, c) n = la at *
 clear hs hk hk' hz hz' h h0 t0 hxy
 obtain ⟨a, r, bb⟩ := x
 obtain ⟨a', r', bb'⟩ := y
 unfold agP agS at *
 simp only at *
 go_enter Tryz.func139, Tryz.ntmps139
 go_wp2
 go_region
 ·have hM := moveW1 w (a, r, bb) (a', r', bb') c
  simp only at hM
  generalize (((((w.alloc (.cells #[.string a, .int .i64 r, .int .i64 bb] 28)).alloc (.cells #[.string a', .int .i64 r', .int .i64 bb'] 28)).alloc (.cells #[.string a, .int .i64 r, .int .i64 bb, .string c] 118)).alloc (.cells #[.string a', .int .i64 r', .int .i64 bb', .string c] 118)).drew) = W at hM ⊢
  generalize w.heap.size + 1 + 1 + 1 = q3 at hM ⊢
  generalize w.heap.size + 1 + 1 = q2 at hM ⊢
  obtain ⟨h0, h1, h2, h3⟩ := hM.hs
  simp only at h0 h1 h2 h3
  go_wp2_with (first
   | (go_at_call 171; refine (HC.out _ hM.below).mono ?_; rintro e w1 ⟨rfl, hb1⟩; have hM1 := hM.later hb1; obtain ⟨y0, y1, y2⟩ := hM1.by_; simp only at y0 y1 y2)
   | (go_at_call 118; refine (HP.out _ hM1.below).mono ?_; rintro e w2 ⟨rfl, hb2⟩; have hM2 := hM1.later hb2; obtain ⟨x0, x1, x2⟩ := hM2.bx; obtain ⟨z0, z1, z2⟩ := hM2.by_; obtain ⟨k0, k1, k2, k3⟩ := hM2.hs; obtain ⟨l0, l1, l2, l3⟩ := hM2.ht; simp only at x0 x1 x2 z0 z1 z2 k0 k1 k2 k3 l0 l1 l2 l3)
   | (go_at_call 173; refine (HL.out _ hM2.below).mono ?_; rintro e w3 ⟨rfl, hb3⟩; have hM3 := hM2.later hb3; have g := HF.out _ hM3.below))
  go_ret
  exact ⟨rfl, hM3.below⟩
 ·have hM := moveW2 w (a, r, bb) (a', r', bb') c
  simp only at hM
  generalize (((((w.alloc (.cells #[.string a, .int .i64 r, .int .i64 bb] 28)).alloc (.cells #[.string a', .int .i64 r', .int .i64 bb'] 28)).alloc (.cells #[.string a', .int .i64 r', .int .i64 bb', .string c] 118)).alloc (.cells #[.string a, .int .i64 r, .int .i64 bb, .string c] 118)).drew) = W at hM ⊢
  generalize w.heap.size + 1 + 1 + 1 = q3 at hM ⊢
  generalize w.heap.size + 1 + 1 = q2 at hM ⊢
  obtain ⟨h0, h1, h2, h3⟩ := hM.hs
  simp only at h0 h1 h2 h3
  go_wp2_with (first
   | (go_at_call 171; refine (HC.out _ hM.below).mono ?_; rintro e w1 ⟨rfl, hb1⟩; have hM1 := hM.later hb1; obtain ⟨y0, y1, y2⟩ := hM1.by_; simp only at y0 y1 y2)
   | (go_at_call 118; refine (HP.out _ hM1.below).mono ?_; rintro e w2 ⟨rfl, hb2⟩; have hM2 := hM1.later hb2; obtain ⟨x0, x1, x2⟩ := hM2.bx; obtain ⟨z0, z1, z2⟩ := hM2.by_; obtain ⟨k0, k1, k2, k3⟩ := hM2.hs; obtain ⟨l0, l1, l2, l3⟩ := hM2.ht; simp only at x0 x1 x2 z0 z1 z2 k0 k1 k2 k3 l0 l1 l2 l3)
   | (go_at_call 173; refine (HL.out _ hM2.below).mono ?_; rintro e w3 ⟨rfl, hb3⟩; have hM3 := hM2.later hb3; have g := HF.out _ hM3.below))
  go_ret
  exact ⟨rfl, hM3.below⟩
theorem move_in (x y : Pl) (c : ByteArray) (n : Int) (w : World) (s : Nat → Addr) (p b : Nat) (m : List Ln) (h : IsStock w p b m) (hk : KeyOk (x, c)) (hz : y.1.size ≤ maxLen) (hz' : c.size ≤ maxLen) (hs : Five w s) (t0 : takeE m (x, c) n = 0) (h0 : placeErr y = 0) (hxy : x ≠ y) (hf : linesA m (x, c) (y, c) n ≤ 200) :
  Calls Tryz.prog 139 #[.pointer (some ⟨p, 0, none⟩), agP x, agP y, .string c, .int .i64 n] w fun e w' => e = .returned (.nilIface) ∧ IsStock w' p b (moveL m x y c n) ∧ w.grownBy w' (some b) := by
 have HC : Hid (∀ W, Below w.heap.size w W → Calls Tryz.prog 171 #[.pointer (some ⟨p, 0, none⟩), agS (x, c), .int .i64 n] W fun e w' => e = .returned (errP s (takeE m (x, c) n)) ∧ Below W.heap.size W w') := fun W hb => checkTake_any (x, c) n W s p b m (h.all hb) hk (hs.below hb)
 have HP : Hid (∀ W, Below w.heap.size w W → Calls Tryz.prog 118 #[agP y] W fun e w' => e = .returned (errP s (placeErr y)) ∧ Below W.heap.size W w') := fun W hb => pcheck_any y W s hz (hs.two.below hb)
 have hk' : KeyOk (y, c) := keyOk_of h0 hz hz'
 have HL : Hid (∀ W, Below w.heap.size w W → Calls Tryz.prog 173 #[.pointer (some ⟨p, 0, none⟩), agS (x, c), agS (y, c), .int .i64 n] W fun e w' => e = .returned (.int .i64 (linesA m (x, c) (y, c) n)) ∧ Below W.heap.size W w') := fun W hb => linesAfter_any (x, c) (y, c) n W p b m (h.all hb) hk hk'
 have hG := Tryz.guardK
 have hE := fun W => eqK_run x y W
 obtain ⟨t1, t2, t3⟩ := takeE_zero t0
 have hme : moveE m x y c n = 0 := by rw [moveE_full t0 h0 hxy, if_neg (by omega)]
 obtain ⟨_, p2⟩ := move_parts h.wf t0 h0 hxy
 have hv0 := h.wf.at_nonneg (y, c)
 have hv1 : atL m (y, c) ≤ 1099511627776 := Int.le_trans (h.wf.at_le (y, c)) (h.wf.most _)
 have HS : Hid (∀ W, Below w.heap.size w W → Calls Tryz.prog 172 #[.pointer (some ⟨p, 0, none⟩), agS (x, c), .int .i64 n] W fun e w' => e = .returned (.tuple #[]) ∧ IsStock w' p b (withL m (x, c) (atL m (x, c) - n)) ∧ W.grownBy w' (some b)) := fun W hb => less_any (x, c) n W p b m (h.all hb) hk t1 t3
 have hmv := h.wf.move x y c n
 rw [moveL_zero hme] at hmv ⊢
 have HA : Hid (∀ W q, IsStock W p b (withL m (x, c) (atL m (x, c) - n)) → BoxS q (y, c) W → q ≠ b → ∃ w5, W.grownBy w5 (some b) ∧ IsStock w5 p b (withL (withL m (x, c) (atL m (x, c) - n)) (y, c) (atL m (y, c) + n)) ∧ ∃ (st : Nat) (w4 : World), (Instr.mapEntry 114 (.map (some b)) (agS (y, c))).run Tryz.prog W = .ok (.tuple #[.int .i64 (atL m (y, c)), .int .i64 st]) w4 ∧ (Instr.lookup 114 (.map (some b)) (agS (y, c)) false).run Tryz.prog w4 = .ok (.int .i64 (atL m (y, c))) w4 ∧ BoxS q (y, c) w4 ∧ w4.cell? ⟨p, 0, none⟩ = some (.map (some b)) ∧ (Instr.entryStore 114 (.map (some b)) (.int .i64 st) (.int .i64 (atL m (y, c) + n))).run Tryz.prog w4 = .ok () w5) := fun W q hS hq hqb => by
  have := hS.add hk' (n := n) (by rw [p2]; exact hmv) (by rw [p2]; omega) hq hqb
  rw [p2] at this
  exact this
 have HV : Hid (∀ W, IsStock W p b (withL m (x, c) (atL m (x, c) - n)) → (Instr.lookup 114 (.map (some b)) (agS (y, c)) false).run Tryz.prog W = .ok (.int .i64 (atL m (y, c))) W) := fun W hS => by
  have := hS.look hk'
  rw [p2] at this
  exact this
 have Hb : Hid (b < w.heap.size) := h.lt.2
 rw [t0, errP_zero] at HC
 rw [h0, errP_zero] at HP
 rw [decide_eq_false hxy] at hE
 generalize linesA m (x, c) (y, c) n = la at *
 generalize withL (withL m (x, c) (atL m (x, c) - n)) (y, c) (atL m (y, c) + n) = m2 at *
 generalize withL m (x, c) (atL m (x, c) - n) = m1 at *
 generalize atL m (y, c) = v at *
 clear hs hk hk' hz hz' h h0 t0 hxy hme hmv p2 t3
 obtain ⟨a, r, bb⟩ := x
 obtain ⟨a', r', bb'⟩ := y
 unfold agP agS at *
 simp only at *
 go_enter Tryz.func139, Tryz.ntmps139
 go_wp2
 go_region
 ·have hM := moveW1 w (a, r, bb) (a', r', bb') c
  simp only at hM
  generalize (((((w.alloc (.cells #[.string a, .int .i64 r, .int .i64 bb] 28)).alloc (.cells #[.string a', .int .i64 r', .int .i64 bb'] 28)).alloc (.cells #[.string a, .int .i64 r, .int .i64 bb, .string c] 118)).alloc (.cells #[.string a', .int .i64 r', .int .i64 bb', .string c] 118)).drew) = W at hM ⊢
  generalize w.heap.size + 1 + 1 + 1 = q3 at hM ⊢
  generalize w.heap.size + 1 + 1 = q2 at hM ⊢
  obtain ⟨h0, h1, h2, h3⟩ := hM.hs
  simp only at h0 h1 h2 h3
  go_wp2_with (first
   | (go_at_call 171; refine (HC.out _ hM.below).mono ?_; rintro e w1 ⟨rfl, hb1⟩; have hM1 := hM.later hb1; obtain ⟨y0, y1, y2⟩ := hM1.by_; simp only at y0 y1 y2)
   | (go_at_call 118; refine (HP.out _ hM1.below).mono ?_; rintro e w2 ⟨rfl, hb2⟩; have hM2 := hM1.later hb2; obtain ⟨x0, x1, x2⟩ := hM2.bx; obtain ⟨z0, z1, z2⟩ := hM2.by_; obtain ⟨k0, k1, k2, k3⟩ := hM2.hs; obtain ⟨l0, l1, l2, l3⟩ := hM2.ht; simp only at x0 x1 x2 z0 z1 z2 k0 k1 k2 k3 l0 l1 l2 l3)
   | (go_at_call 173; refine (HL.out _ hM2.below).mono ?_; rintro e w3 ⟨rfl, hb3⟩; have hM3 := hM2.later hb3; obtain ⟨m0, m1', m2', m3⟩ := hM3.hs; simp only at m0 m1' m2' m3)
   | (go_at_call 172; refine (HS.out _ hM3.below).mono ?_; rintro e w4 ⟨rfl, hi4, hg4⟩))
  have hqb := hM3.ne Hb.out
  have hb4 := hM3.ht.of_block (hg4.block _ hM3.ht.lt (by simp; exact hqb))
  have hi5 : IsStock w4.drew p b m1 := ⟨hi4.cell, hi4.map, hi4.wf⟩
  have hc4 := hi4.cell
  have hl4 := HV.out w4.drew hi5
  obtain ⟨n0, n1, n2, n3⟩ := hb4
  simp only at n0 n1 n2 n3
  obtain ⟨w5, hg5, hi6, st, w6, e1, e2, ⟨o0, o1, o2, o3⟩, e4, e5⟩ := HA.out w4.drew _ hi5 ⟨n0, n1, n2, n3⟩ hqb
  simp only at o0 o1 o2 o3
  go_region
  go_wp2
  go_ret
  exact ⟨rfl, hi6, grown_trans (grown_trans (Below.grownAll hM3.below _) hg4) (grown_trans (grown_drewN _ 1 _) hg5)⟩
 ·have hM := moveW2 w (a, r, bb) (a', r', bb') c
  simp only at hM
  generalize (((((w.alloc (.cells #[.string a, .int .i64 r, .int .i64 bb] 28)).alloc (.cells #[.string a', .int .i64 r', .int .i64 bb'] 28)).alloc (.cells #[.string a', .int .i64 r', .int .i64 bb', .string c] 118)).alloc (.cells #[.string a, .int .i64 r, .int .i64 bb, .string c] 118)).drew) = W at hM ⊢
  generalize w.heap.size + 1 + 1 + 1 = q3 at hM ⊢
  generalize w.heap.size + 1 + 1 = q2 at hM ⊢
  obtain ⟨h0, h1, h2, h3⟩ := hM.hs
  simp only at h0 h1 h2 h3
  go_wp2_with (first
   | (go_at_call 171; refine (HC.out _ hM.below).mono ?_; rintro e w1 ⟨rfl, hb1⟩; have hM1 := hM.later hb1; obtain ⟨y0, y1, y2⟩ := hM1.by_; simp only at y0 y1 y2)
   | (go_at_call 118; refine (HP.out _ hM1.below).mono ?_; rintro e w2 ⟨rfl, hb2⟩; have hM2 := hM1.later hb2; obtain ⟨x0, x1, x2⟩ := hM2.bx; obtain ⟨z0, z1, z2⟩ := hM2.by_; obtain ⟨k0, k1, k2, k3⟩ := hM2.hs; obtain ⟨l0, l1, l2, l3⟩ := hM2.ht; simp only at x0 x1 x2 z0 z1 z2 k0 k1 k2 k3 l0 l1 l2 l3)
   | (go_at_call 173; refine (HL.out _ hM2.below).mono ?_; rintro e w3 ⟨rfl, hb3⟩; have hM3 := hM2.later hb3; obtain ⟨m0, m1', m2', m3⟩ := hM3.hs; simp only at m0 m1' m2' m3)
   | (go_at_call 172; refine (HS.out _ hM3.below).mono ?_; rintro e w4 ⟨rfl, hi4, hg4⟩))
  have hqb := hM3.ne Hb.out
  have hb4 := hM3.ht.of_block (hg4.block _ hM3.ht.lt (by simp; exact hqb))
  have hi5 : IsStock w4.drew p b m1 := ⟨hi4.cell, hi4.map, hi4.wf⟩
  have hc4 := hi4.cell
  have hl4 := HV.out w4.drew hi5
  obtain ⟨n0, n1, n2, n3⟩ := hb4
  simp only at n0 n1 n2 n3
  obtain ⟨w5, hg5, hi6, st, w6, e1, e2, ⟨o0, o1, o2, o3⟩, e4, e5⟩ := HA.out w4.drew _ hi5 ⟨n0, n1, n2, n3⟩ hqb
  simp only at o0 o1 o2 o3
  go_region
  go_wp2
  go_ret
  exact ⟨rfl, hi6, grown_trans (grown_trans (Below.grownAll hM3.below _) hg4) (grown_trans (grown_drewN _ 1 _) hg5)⟩
theorem move_any (x y : Pl) (c : ByteArray) (n : Int) (w : World) (s : Nat → Addr) (p b : Nat) (m : List Ln) (h : IsStock w p b m) (hk : KeyOk (x, c)) (hz : y.1.size ≤ maxLen) (hz' : c.size ≤ maxLen) (hs : Five w s) :
  Calls Tryz.prog 139 #[.pointer (some ⟨p, 0, none⟩), agP x, agP y, .string c, .int .i64 n] w fun e w' => e = .returned (errP s (moveE m x y c n)) ∧ IsStock w' p b (moveL m x y c n) ∧ w.grownBy w' (some b) := by
 by_cases t0 : takeE m (x, c) n = 0
 ·by_cases h0 : placeErr y = 0
  ·by_cases hxy : x = y
   ·have e := moveE_shape t0 h0 hxy
    rw [moveL_err (by rw [e]; decide), e]
    exact (move_shape x y c n w s p b m h hk hz hs t0 h0 hxy).mono fun e w' ⟨he, hb⟩ => ⟨he, h.all hb, Below.grownAll hb _⟩
   ·have e := moveE_full (m := m) t0 h0 hxy
    by_cases hf : 200 < linesA m (x, c) (y, c) n
    ·rw [if_pos hf] at e
     rw [moveL_err (by rw [e]; decide), e]
     exact (move_full x y c n w s p b m h hk hz hz' hs t0 h0 hxy hf).mono fun e w' ⟨he, hb⟩ => ⟨he, h.all hb, Below.grownAll hb _⟩
    ·rw [if_neg hf] at e
     rw [e]
     exact move_in x y c n w s p b m h hk hz hz' hs t0 h0 hxy (by omega)
  ·have e := moveE_place (m := m) t0 h0
   rw [moveL_err (by rw [e]; exact h0), e]
   exact (move_place x y c n w s p b m h hk hz hs t0 h0).mono fun e w' ⟨he, hb⟩ => ⟨he, h.all hb, Below.grownAll hb _⟩
 ·have e := moveE_take (y := y) t0
  rw [moveL_err (by rw [e]; exact t0), e]
  exact (move_take x y c n w s p b m h hk hs t0).mono fun e w' ⟨he, hb⟩ => ⟨he, h.all hb, Below.grownAll hb _⟩
end Go.Proofs.YteomomeigbfeoaaGreatDoor
namespace Go.Proofs.YteomomeigbfeoaaGreatDoor
open Go.RowKit Go.Lib Go.Sort
def RefS (w : World) (v : Value) (m : List Ln) : Prop := w.ownsRow 0 70 5 v m.length (flatN m)
theorem RefS.nil (w : World) : RefS w (.slice none 0 0) [] := World.ownsRow_nil w 0 _ 5
theorem RefS.all {w w' : World} {v : Value} {m : List Ln} (h : RefS w v m) (hb : Below w.heap.size w w') : RefS w' v m :=
 h.kept (row := none) ⟨hb.os, hb.tape, hb.output, hb.size, fun k hk _ => hb.block k hk⟩ (by cases e : v.ownBlock with | none => exact Or.inl rfl | some k => exact Or.inr (by simp))
theorem RefS.forms {w : World} {v : Value} {m : List Ln} (h : RefS w v m) : (v = .slice none 0 0 ∧ m = []) ∨ ∃ g cap, v = .slice (some ⟨g, 0, none⟩) m.length cap ∧ g < w.heap.size ∧ RowN w g m := by
 rcases Joins.ownsRow_forms h with ⟨h1, h2⟩ | ⟨g, cap, rfl⟩
 ·exact Or.inl ⟨h1, List.eq_nil_of_length_eq_zero h2⟩
 ·exact Or.inr ⟨g, cap, rfl, (h.lt g rfl).2, own_rowN h⟩
def findR (m : List Ln) (k : Sp) : Int := match m.findIdx? (fun l => decide (keyL l = k)) with | some i => (i : Int) | none => -1
theorem findR_none {m : List Ln} {k : Sp} (h : ∀ l ∈ m, keyL l ≠ k) : findR m k = -1 := by
 unfold findR
 rw [List.findIdx?_eq_none_iff.2 (fun l hl => by simpa using h l hl)]
theorem findR_at {m : List Ln} {k : Sp} {i : Nat} {l : Ln} (hl : m[i]? = some l) (hk : keyL l = k) (hno : ∀ y ∈ m.take i, keyL y ≠ k) : findR m k = i := by
 obtain ⟨hi, e⟩ := List.getElem?_eq_some_iff.1 hl
 unfold findR
 rw [List.findIdx?_eq_some_iff_getElem.2 ⟨hi, by rw [e]; simpa using hk, fun j hj => by
  have := hno m[j] (List.mem_take_iff_getElem.2 ⟨j, by omega, rfl⟩)
  simpa using this⟩]
theorem findR_cases (m : List Ln) (k : Sp) : (findR m k = -1 ∧ ∀ l ∈ m, keyL l ≠ k) ∨ ∃ (i : Nat) (l : Ln), findR m k = i ∧ m[i]? = some l ∧ keyL l = k := by
 unfold findR
 cases h : m.findIdx? (fun l => decide (keyL l = k)) with
 | none => exact Or.inl ⟨rfl, fun l hl => by simpa using List.findIdx?_eq_none_iff.1 h l hl⟩
 | some i =>
  obtain ⟨hi, h1, _⟩ := List.findIdx?_eq_some_iff_getElem.1 h
  exact Or.inr ⟨i, m[i], rfl, List.getElem?_eq_getElem hi, by simpa using h1⟩
abbrev boxR (w : World) (v : Value) (x : Pl) : World := (w.alloc (.cells #[v] 86)).alloc (.cells #[.string x.1, .int .i64 x.2.1, .int .i64 x.2.2] 28)
theorem boxR_below (w : World) (v : Value) (x : Pl) : Below w.heap.size w (boxR w v x) := ((Below.refl _ w).alloc (Nat.le_refl _) _).alloc (by simp) _
theorem boxR_cells (w : World) (v : Value) (x : Pl) : (boxR w v x).cell? ⟨w.heap.size, 0, none⟩ = some v ∧ BoxAt (w.heap.size + 1) x (boxR w v x) := by
 refine ⟨?_, BoxAt.new _ x _ _ (by simp)⟩
 rw [((Below.refl _ (w.alloc (.cells #[v] 86))).alloc (Nat.le_refl _) _).cell (p := ⟨w.heap.size, 0, none⟩) (by simp), World.cell?_alloc_at _ _ _ _ rfl]; rfl
theorem keyL_ne_place {l : Ln} {x : Pl} {c : ByteArray} (h : l.1 ≠ x) : keyL l ≠ (x, c) := fun e => h (congrArg Prod.fst e)
theorem keyL_ne_lot {l : Ln} {x : Pl} {c : ByteArray} (h : l.2.1 ≠ c) : keyL l ≠ (x, c) := fun e => h (congrArg Prod.snd e)
theorem take_next {m : List Ln} {k : Nat} {l : Ln} {P : Ln → Prop} (hl : m[k]? = some l) (h : ∀ y ∈ m.take k, P y) (h1 : P l) : ∀ y ∈ m.take (k + 1), P y := by
 obtain ⟨hk, e⟩ := List.getElem?_eq_some_iff.1 hl
 rw [List.take_succ_eq_append_getElem hk, e]
 intro y hy
 rcases List.mem_append.1 hy with hy | hy
 ·exact h y hy
 ·obtain rfl : y = l := by simpa using hy
  exact h1
theorem find_any (v : Value) (m : List Ln) (x : Pl) (c : ByteArray) (w : World) (h : RefS w v m) (h200 : m.length ≤ 200) :
  Calls Tryz.prog 131 #[.agg #[v], agP x, .string c] w fun e w' => e = .returned (.int .i64 (findR m (x, c))) ∧ Below w.heap.size w w' := by
 have hB := boxR_below w v x
 obtain ⟨hv, hbx⟩ := boxR_cells w v x
 have hf := (h.all hB).forms
 have hlt0 : w.heap.size + 1 < (boxR w v x).heap.size := by simp
 have hE := fun (l : Ln) W => eqK_run l.1 x W
 have hG := Tryz.guardK
 clear h
 obtain ⟨a, r, bb⟩ := x
 unfold agP boxR at *
 simp only at *
 rcases hf with ⟨rfl, rfl⟩ | ⟨g, cap, rfl, hg, hrow⟩
 ·have HB : Hid (Below _ _ _) := hB
  clear hB hE
  go_enter Tryz.func131, Tryz.ntmps131
  go_wp2
  refine wp_loop_rounds 1 ?_
  rw [rounds_succ]
  go_wp2
  go_ret
  exact ⟨rfl, HB.out⟩
 ·generalize hln : m.length = ln at *
  have HN : Hid (ln = m.length) := hln.symm
  clear hln
  have HB : Hid (Below _ _ _) := hB
  have HR : Hid (RowN _ g m) := hrow
  have HE : Hid (∀ (l : Ln) W, _) := hE
  have HV : Hid (_ = some (Value.slice (some ⟨g, 0, none⟩) ln cap)) := hv
  have HX : Hid (BoxAt _ (a, r, bb) _) := hbx
  have HL0 : Hid (w.heap.size + 1 < _) := hlt0
  clear hB hrow hE hbx hlt0 hg
  go_enter Tryz.func131, Tryz.ntmps131
  go_wp2
  generalize (w.alloc (.cells #[.slice (some ⟨g, 0, none⟩) ln cap] 86)).alloc (.cells #[.string a, .int .i64 r, .int .i64 bb] 28) = W at *
  go_loopw [7] (fun i wr => ∃ k : Nat, k ≤ ln ∧ i = .int .i64 k ∧ Below W.heap.size W wr ∧ ∀ l ∈ m.take k, keyL l ≠ ((a, r, bb), c)) (fun i _ => ln - (RowKit.intOf i).toNat)
  case atStart => exact ⟨0, Nat.zero_le _, rfl, Below.refl _ _, by simp⟩
  case round =>
   obtain ⟨k, hk, rfl, hwr, hno⟩ := hrel
   have HNo : Hid (∀ l ∈ m.take k, keyL l ≠ ((a, r, bb), c)) := hno
   clear hno
   have hvr : wr.cell? ⟨w.heap.size, 0, none⟩ = some (.slice (some ⟨g, 0, none⟩) ln cap) := by rw [hwr.cell (p := ⟨w.heap.size, 0, none⟩) (by have := HL0.out; simp; omega)]; exact HV.out
   obtain ⟨b0, b1, b2⟩ := HX.out.below hwr
   simp only at b0 b1 b2
   by_cases hlt : k < ln
   ·have hkm : k < m.length := by rw [← HN.out]; exact hlt
    obtain ⟨l, hl⟩ : ∃ l, m[k]? = some l := ⟨_, List.getElem?_eq_getElem hkm⟩
    have HLl : Hid (m[k]? = some l) := hl
    obtain ⟨c0, c1, c2, c3, c4⟩ := HR.out.below hwr k l hl
    have hq := HE.out l
    clear hl hkm hv
    obtain ⟨⟨la, lr, lb⟩, lc, lnn⟩ := l
    simp only at c0 c1 c2 c3 c4 hq
    by_cases hp : ((la, lr, lb) : Pl) = (a, r, bb)
    ·rw [decide_eq_true hp] at hq
     by_cases hc : lc = c
     ·have HK : Hid (keyL ((la, lr, lb), lc, lnn) = ((a, r, bb), c)) := by show (((la, lr, lb), lc) : Sp) = _; rw [hp, hc]
      subst hc
      clear hp
      go_wp2
      go_quiet (fail)
      go_wp2
      go_ret
      exact ⟨by rw [findR_at HLl.out HK.out HNo.out]; rfl, HB.out.trans ((below_drewN hwr _).mono HB.out.size)⟩
     ·have HK : Hid (keyL ((la, lr, lb), lc, lnn) ≠ ((a, r, bb), c)) := keyL_ne_lot hc
      have e3 := same_eq lc c
      rw [decide_eq_false hc] at e3
      clear hp hc
      go_wp2
      go_quiet (fail)
      go_wp2
      go_roundw
      case rel => exact ⟨k + 1, by omega, by go_num, below_drewN hwr _, take_next HLl.out HNo.out HK.out⟩
      case measure => simp [RowKit.intOf]; omega
    ·have HK : Hid (keyL ((la, lr, lb), lc, lnn) ≠ ((a, r, bb), c)) := keyL_ne_place hp
     rw [decide_eq_false hp] at hq
     clear hp
     go_wp2
     go_quiet (fail)
     go_wp2
     go_roundw
     case rel => exact ⟨k + 1, by omega, by go_num, below_drewN hwr _, take_next HLl.out HNo.out HK.out⟩
     case measure => simp [RowKit.intOf]; omega
   ·have e : m.take k = m := List.take_of_length_le (by rw [← HN.out]; omega)
    have HNm : Hid (∀ l ∈ m, keyL l ≠ ((a, r, bb), c)) := by show ∀ l ∈ m, _; rw [← e]; exact HNo.out
    clear e hv
    go_wp2
    go_ret
    exact ⟨by rw [findR_none HNm.out]; rfl, HB.out.trans (hwr.mono HB.out.size)⟩
end Go.Proofs.YteomomeigbfeoaaGreatDoor
namespace Go.Proofs.YteomomeigbfeoaaGreatDoor
open Go.RowKit Go.Lib Go.Sort Go.Shelf
abbrev boxN2 (w : World) (x y : Ln) : World := (w.alloc (.cells #[.string x.1.1, .int .i64 x.1.2.1, .int .i64 x.1.2.2, .string x.2.1, .int .i64 x.2.2] 70)).alloc (.cells #[.string y.1.1, .int .i64 y.1.2.1, .int .i64 y.1.2.2, .string y.2.1, .int .i64 y.2.2] 70)
theorem boxN2_grew (w : World) (x y : Ln) : Grew w (boxN2 w x y) := ((Grew.refl w).alloc _).alloc _
theorem boxN2_first (w : World) (x y : Ln) : LineAt (boxN2 w x y) w.heap.size 0 x := (LineAt.new w x _ _ rfl).below ((Below.refl _ _).alloc (Nat.le_refl _) _)
theorem boxN2_second (w : World) (x y : Ln) : LineAt (boxN2 w x y) (w.heap.size + 1) 0 y := LineAt.new _ y _ _ (by simp)
theorem kcompare_any (x y : Ln) (w : World) : Calls Tryz.prog 69 #[agN x, agN y] w fun e w' => e = .returned (.int .i64 (cmpN x y)) ∧ Grew w w' := by
 have hg := boxN2_grew w x y
 obtain ⟨x0, x1, x2, x3, _⟩ := boxN2_first w x y
 obtain ⟨y0, y1, y2, y3, _⟩ := boxN2_second w x y
 obtain ⟨⟨a, r, b⟩, c, n⟩ := x
 obtain ⟨⟨a', r', b'⟩, c', n'⟩ := y
 have h1 : ∀ w, Calls Tryz.prog 109 #[agP (a, r, b), agP (a', r', b')] w fun e w' => e = .returned (.int .i64 (cmpP (a, r, b) (a', r', b'))) ∧ Grew w w' := fun w => compare_any (a, r, b) (a', r', b') w
 have h2 := fun w => cmpS_any c c' w
 have HE : Hid (cmpN ((a, r, b), c, n) ((a', r', b'), c', n') = or2 (cmpP (a, r, b) (a', r', b')) (cmpZ c c')) := rfl
 unfold agP agN boxN2 at *
 simp only [Nat.zero_add] at *
 generalize cmpN ((a, r, b), c, n) ((a', r', b'), c', n') = E at *
 generalize cmpP (a, r, b) (a', r', b') = c1 at *
 generalize cmpZ c c' = c2 at *
 have h4 := fun bk cc w => or2_any bk cc c1 c2 w
 have hA : ∀ w' o, Grew w w' → Grew w (w'.alloc o) := fun w' o h => h.alloc o
 have hD : ∀ w', Grew w w' → Grew w w'.drew := fun w' h => h.drew
 go_enter Tryz.func69, Tryz.ntmps69
 go_wp2
 go_region_held3 (fun w' => Grew w w' ∧ w'.cell? ⟨w.heap.size, 0, none⟩ = some (.string a) ∧ w'.cell? ⟨w.heap.size, 1, none⟩ = some (.int .i64 r) ∧ w'.cell? ⟨w.heap.size, 2, none⟩ = some (.int .i64 b) ∧ w'.cell? ⟨w.heap.size, 3, none⟩ = some (.string c) ∧ w'.cell? ⟨w.heap.size + 1, 0, none⟩ = some (.string a') ∧ w'.cell? ⟨w.heap.size + 1, 1, none⟩ = some (.int .i64 r') ∧ w'.cell? ⟨w.heap.size + 1, 2, none⟩ = some (.int .i64 b') ∧ w'.cell? ⟨w.heap.size + 1, 3, none⟩ = some (.string c')) (go_keep)
  (first
   | (go_at_call 109; refine (h1 _).mono ?_; rintro e w1 ⟨rfl, hg1⟩; have k0 := hg1.keep x0; have k1 := hg1.keep x1; have k2 := hg1.keep x2; have k3 := hg1.keep x3; have l0 := hg1.keep y0; have l1 := hg1.keep y1; have l2 := hg1.keep y2; have l3 := hg1.keep y3; have hgw := (hD _ hg).trans hg1)
   | (go_at_call 59; refine (h2 _).mono ?_; rintro e w1 ⟨rfl, rfl⟩)
   | (go_at_call 101; refine (h4 _ _ _ (by rw [World.cell?_alloc_at _ _ _ _ rfl]; rfl) (by rw [World.cell?_alloc_at _ _ _ _ rfl]; rfl)).mono ?_; rintro e w3 ⟨rfl, rfl⟩))
 go_wp2
 go_ret
 exact ⟨by rw [HE.out]; rfl, hgw.alloc _⟩
theorem cmpLaysN (blk off size : Nat) (w : World) : CmpLays Tryz.prog 69 #[] encN 5 cmpN blk off size w := fun _ _ _ _ x y => kcompare_any x y _
end Go.Proofs.YteomomeigbfeoaaGreatDoor
namespace Go.Proofs.YteomomeigbfeoaaGreatDoor
open Go.RowKit Go.Lib Go.Sort
theorem refAt_any (v : Value) (m : List Ln) (x : Pl) (c : ByteArray) (w : World) (h : RefS w v m) (h200 : m.length ≤ 200) (hs : Sorted m) :
  Calls Tryz.prog 133 #[.agg #[v], agP x, .string c] w fun e w' => e = .returned (.int .i64 (atL m (x, c))) ∧ Below w.heap.size w w' := by
 have hB := boxR_below w v x
 obtain ⟨hv, hbx⟩ := boxR_cells w v x
 have hF := find_any v m x c _ (h.all hB) h200
 have hf := (h.all hB).forms
 have HS : Hid (Sorted m) := hs
 have HB : Hid (Below _ _ _) := hB
 have HF : Hid (Calls Tryz.prog 131 _ _ _) := hF
 have hl0 : w.heap.size < (boxR w v x).heap.size := by simp; omega
 clear h hs hB hF
 obtain ⟨a, r, bb⟩ := x
 unfold agP boxR at *
 simp only at *
 obtain ⟨b0, b1, b2⟩ := hbx
 simp only at b0 b1 b2
 rcases findR_cases m ((a, r, bb), c) with ⟨hfr, hno⟩ | ⟨i, l, hfr, hl, hk⟩
 ·have HE : Hid (atL m ((a, r, bb), c) = 0) := atL_none hno
  rw [hfr] at HF
  clear hf hno hfr
  go_enter Tryz.func133, Tryz.ntmps133
  go_wp2_with (go_at_call 131; refine HF.out.mono ?_; rintro e w1 ⟨rfl, hb1⟩; have hbw := HB.out.trans (hb1.mono HB.out.size); have hv1 : w1.cell? ⟨w.heap.size, 0, none⟩ = some v := (hb1.cell (p := ⟨w.heap.size, 0, none⟩) hl0).trans hv)
  go_ret
  exact ⟨by rw [HE.out]; rfl, hbw⟩
 ·have HE : Hid (atL m ((a, r, bb), c) = l.2.2) := by show _ = _; rw [← hk]; exact find_at HS.out hl
  have hi := (List.getElem?_eq_some_iff.1 hl).1
  rw [hfr] at HF
  rcases hf with ⟨rfl, rfl⟩ | ⟨g, cap, rfl, hg, hrow⟩
  ·simp at hl
  ·have hrow1 : Hid (∀ w1, Below _ _ w1 → LineAt w1 g (i * 5) l) := fun w1 hb => (hrow.below hb) i l hl
   clear hl hk hrow hfr hg
   generalize m.length = ln at *
   generalize atL m ((a, r, bb), c) = AA at *
   go_enter Tryz.func133, Tryz.ntmps133
   go_wp2_with (go_at_call 131; refine HF.out.mono ?_; rintro e w1 ⟨rfl, hb1⟩; have hbw := HB.out.trans (hb1.mono HB.out.size); have hv1 : w1.cell? ⟨w.heap.size, 0, none⟩ = some (.slice (some ⟨g, 0, none⟩) ln cap) := (hb1.cell (p := ⟨w.heap.size, 0, none⟩) hl0).trans hv; obtain ⟨c0, c1, c2, c3, c4⟩ := hrow1.out w1 hb1)
   go_ret
   exact ⟨by rw [HE.out]; rfl, hbw⟩
theorem refOf_any (v : Value) (m : List Ln) (c : ByteArray) (w : World) (h : RefS w v m) (hw : Wf m) :
  Calls Tryz.prog 86 #[.agg #[v], .string c] w fun e w' => e = .returned (.int .i64 (ofL m c)) ∧ Below w.heap.size w w' := by
 have hB : Below w.heap.size w (w.alloc (.cells #[v] 86)) := (Below.refl _ w).alloc (Nat.le_refl _) _
 have hv : (w.alloc (.cells #[v] 86)).cell? ⟨w.heap.size, 0, none⟩ = some v := by rw [World.cell?_alloc_at _ _ _ _ rfl]; rfl
 have hf := (h.all hB).forms
 have h200 := hw.len
 have HW : Hid (Wf m) := hw
 clear h hw
 rcases hf with ⟨rfl, rfl⟩ | ⟨g, cap, rfl, hg, hrow⟩
 ·have HB : Hid (Below _ _ _) := hB
  clear hB
  go_enter Tryz.func86, Tryz.ntmps86
  go_wp2
  refine wp_loop_rounds 1 ?_
  rw [rounds_succ]
  go_wp2
  go_ret
  exact ⟨rfl, HB.out⟩
 ·generalize hln : m.length = ln at *
  have HN : Hid (ln = m.length) := hln.symm
  clear hln
  have HB : Hid (Below _ _ _) := hB
  have HR : Hid (RowN _ g m) := hrow
  have HV : Hid (_ = some (Value.slice (some ⟨g, 0, none⟩) ln cap)) := hv
  have HL0 : Hid (w.heap.size < (w.alloc (.cells #[.slice (some ⟨g, 0, none⟩) ln cap] 86)).heap.size) := by show _ < _; simp
  clear hB hrow hg
  go_enter Tryz.func86, Tryz.ntmps86
  go_wp2
  generalize w.alloc (.cells #[.slice (some ⟨g, 0, none⟩) ln cap] 86) = W at *
  go_loopw [5, 6] (fun sm i wr => ∃ k : Nat, k ≤ ln ∧ i = .int .i64 k ∧ sm = .int .i64 (ofL (m.take k) c) ∧ Below W.heap.size W wr) (fun _ i _ => ln - (RowKit.intOf i).toNat)
  case atStart => exact ⟨0, Nat.zero_le _, rfl, rfl, Below.refl _ _⟩
  case round =>
   obtain ⟨k, hk, rfl, rfl, hwr⟩ := hrel
   have hvr : wr.cell? ⟨w.heap.size, 0, none⟩ = some (.slice (some ⟨g, 0, none⟩) ln cap) := by rw [hwr.cell (p := ⟨w.heap.size, 0, none⟩) HL0.out]; exact HV.out
   by_cases hlt : k < ln
   ·have hkm : k < m.length := by rw [← HN.out]; exact hlt
    obtain ⟨l, hl⟩ : ∃ l, m[k]? = some l := ⟨_, List.getElem?_eq_getElem hkm⟩
    obtain ⟨c0, c1, c2, c3, c4⟩ := HR.out.below hwr k l hl
    have e1 := ofL_take_succ hl c
    obtain ⟨o1, o2⟩ := ofL_take_bound HW.out k c
    obtain ⟨o3, o4⟩ := ofL_take_bound HW.out (k + 1) c
    have q1 := HW.out.pos l (List.mem_of_getElem? hl)
    have q2 := HW.out.qty (List.mem_of_getElem? hl)
    clear hl hkm
    obtain ⟨⟨la, lr, lb⟩, lc, lnn⟩ := l
    simp only at c0 c1 c2 c3 c4 e1 q1 q2
    by_cases hc : lc = c
    ·rw [if_pos hc] at e1
     have HE : Hid (ofL (m.take (k + 1)) c = ofL (m.take k) c + lnn) := e1
     subst hc
     clear e1
     generalize ofL (m.take k) lc = O at *
     go_wp2
     go_roundw
     case rel => exact ⟨k + 1, by omega, by go_num, by rw [HE.out], hwr⟩
     case measure => simp [RowKit.intOf]; omega
    ·rw [if_neg hc, Int.add_zero] at e1
     have HE : Hid (ofL (m.take (k + 1)) c = ofL (m.take k) c) := e1
     have e3 := same_eq lc c
     rw [decide_eq_false hc] at e3
     clear e1 hc
     generalize ofL (m.take k) c = O at *
     go_wp2
     go_roundw
     case rel => exact ⟨k + 1, by omega, by go_num, by rw [HE.out], hwr⟩
     case measure => simp [RowKit.intOf]; omega
   ·have e : m.take k = m := List.take_of_length_le (by rw [← HN.out]; omega)
    have HE : Hid (ofL (m.take k) c = ofL m c) := by show _ = _; rw [e]
    clear e
    generalize ofL (m.take k) c = O at *
    go_wp2
    go_ret
    exact ⟨by rw [← HE.out]; rfl, HB.out.trans (hwr.mono HB.out.size)⟩
theorem lineAhead_any (x y : Ln) (w : World) : Calls Tryz.prog 169 #[agN x, agN y] w fun e w' => e = .returned (.bool (aheadN x y)) ∧ Below w.heap.size w w' := by
 have hB := (boxN2_grew w x y).below
 obtain ⟨x0, x1, x2, x3, _⟩ := boxN2_first w x y
 obtain ⟨y0, y1, y2, y3, _⟩ := boxN2_second w x y
 have hI := fun w1 => isAhead_any x.1 y.1 w1
 have hE := fun W => eqK_run x.1 y.1 W
 have hG := Tryz.guardK
 have HE : Hid (aheadN x y = if x.1 = y.1 then zLt x.2.1 y.2.1 else aheadP x.1 y.1) := aheadN_parts x y
 have HB : Hid (Below _ _ _) := hB
 clear hB
 by_cases hp : x.1 = y.1
 ·have HE' : Hid (aheadN x y = zLt x.2.1 y.2.1) := by show _ = _; rw [HE.out, if_pos hp]
  have e1 := less_eq x.2.1 y.2.1
  have H1 : Hid (Op.bytesLess x.2.1.toList y.2.1.toList = zLt x.2.1 y.2.1) := e1
  rw [decide_eq_true hp] at hE
  clear hp hI e1 HE
  generalize aheadN x y = A at *
  obtain ⟨⟨a, r, b⟩, c, n⟩ := x
  obtain ⟨⟨a', r', b'⟩, c', n'⟩ := y
  unfold agN boxN2 at *
  simp only [Nat.zero_add] at *
  go_enter Tryz.func169, Tryz.ntmps169
  go_wp2
  go_ret
  exact ⟨by rw [HE'.out, ← H1.out]; rfl, HB.out⟩
 ·have HE' : Hid (aheadN x y = aheadP x.1 y.1) := by show _ = _; rw [HE.out, if_neg hp]
  rw [decide_eq_false hp] at hE
  clear hp HE
  generalize aheadN x y = A at *
  obtain ⟨⟨a, r, b⟩, c, n⟩ := x
  obtain ⟨⟨a', r', b'⟩, c', n'⟩ := y
  unfold agN agP boxN2 at *
  simp only [Nat.zero_add] at *
  generalize aheadP (a, r, b) (a', r', b') = P at *
  go_enter Tryz.func169, Tryz.ntmps169
  go_wp2_with (go_at_call 204; refine (hI _).mono ?_; rintro e w1 ⟨rfl, hb1⟩)
  go_ret
  exact ⟨by rw [HE'.out]; rfl, HB.out.trans (hb1.mono HB.out.size)⟩
end Go.Proofs.YteomomeigbfeoaaGreatDoor
namespace Go.Proofs.YteomomeigbfeoaaGreatDoor
open Go.RowKit Go.Lib Go.Sort Go.Shelf
theorem encN_cells (w : World) (l : Ln) (t n : Nat) (hn : n = w.heap.size) : ∀ j u, (encN l)[j]? = some u → (w.alloc (.cells #[.string l.1.1, .int .i64 l.1.2.1, .int .i64 l.1.2.2, .string l.2.1, .int .i64 l.2.2] t)).cell? ((⟨n, 0, none⟩ : Addr).add j) = some u := by
 intro j u hj
 rw [Go.WideShapes.add_plain, Nat.zero_add, World.cell?_alloc_at _ _ _ _ hn]
 simpa [encN] using hj
theorem lines_any (w : World) (p b : Nat) (m : List Ln) (h : IsStock w p b m) :
  Calls Tryz.prog 31 #[.pointer (some ⟨p, 0, none⟩)] w fun e w' => ∃ g cap, e = .returned (.slice (some ⟨g, 0, none⟩) m.length cap) ∧ w.heap.size ≤ g ∧ RowN w' g m ∧ Below w.heap.size w w' := by
 obtain ⟨i0, hi, hz0, hz1, hz2⟩ := info_parts Tryz.infoLn
 have hc := h.cell
 have hm := h.map
 have hlt := h.lt
 have HW : Hid (Wf m) := h.wf
 have h200 := h.wf.len
 have hNm : (m.map entN).length = m.length := by simp
 have eg : ∀ args w, (callFunc 69 args).run Tryz.prog w = .ok (.enter 69 args) w := enters_of Tryz.func69 (by kernel_rfl) rfl
 have hso := fun g cap (d : List Ln) w1 (hd : d.length ≤ 200) (hH : HoldsK encN 5 w1 g 0 d.toArray) (hg : g < w1.heap.size) => AnyQ.slices_SortFunc Tryz.laysSortK 5 Tryz.isAgg70 Tryz.sizeOf70 encN encN_len encN_one cmpN swoN 69 #[] g 0 cap d.toArray w1 eg (cmpLaysN g 0 d.toArray.size w1) hH hg (by simp only [List.size_toArray]; omega)
 change ∀ g cap (d : List Ln) w1, _ → _ → _ → Calls Tryz.prog 68 _ _ _ at hso
 simp only [List.size_toArray] at hso
 have HO : Hid (∀ g cap (d : List Ln) w1, _ → _ → _ → Calls Tryz.prog 68 _ _ _) := hso
 clear h eg hso
 obtain ⟨ln, hln⟩ : ∃ ln, ln = m.length := ⟨_, rfl⟩
 have HL : Hid (ln = m.length) := hln
 rw [← hln] at h200 hNm
 clear hln
 go_enter Tryz.func31, Tryz.ntmps31
 go_wp2_with (first
  | (at_len; refine wpL_len rfl _ 114 rfl 118 3 Tryz.underlying114 b _ ln hNm rfl hm ?_)
  | (at_make; refine wpList_make_own _ rfl _ _ 67 rfl w.heap.size 70 i0 _ 5 Tryz.underlying67 hi hz0 hz1 .i64 .i64 _ ln rfl rfl rfl (by rw [hz2]; omega) (by unfold maxLen; omega) (Nat.le_refl _) ?_; intro w1 hown1 hgr1; have hc1 : w1.cell? ⟨p, 0, none⟩ = some (.map (some b)) := (World.cell?_of_block (a := ⟨p, 0, none⟩) (hgr1.block p hlt.1 (by simp))).trans hc; have hm1 := hm.kept hgr1 (by simp); have hb1 : Below w.heap.size w w1 := ⟨hgr1.os, hgr1.tape, hgr1.output, hgr1.size, fun k hk => hgr1.block k hk (by simp)⟩)
  | (at_range; refine wpL_range rfl _ 114 rfl 118 3 Tryz.underlying114 b (m.map entN) rfl hm1 ?_; intro w0 hrg0 hg0 hs0))
 go_frame
 have hb0 : Below w.heap.size w w0 := hb1.trans (Below.mono ⟨hg0.os, hg0.tape, hg0.output, hg0.size, fun k hk => hg0.block k hk (by simp)⟩ hb1.size)
 have hown0 := hown1.kept hg0 (Or.inr (by simp [Value.ownBlock]))
 have hr0 : w.heap.size < w1.heap.size := (hown1.lt w.heap.size rfl).2
 clear hg0 hs0 hm hm1 hc1 hgr1 hown1 hb1 hc
 generalize w1.heap.size = r at *
 have HB : Hid (b < w.heap.size) := hlt.2
 have HR : Hid (w.heap.size < r) := hr0
 clear hr0 hlt
 go_loopw [3] (fun sl wr => ∃ d t : List Ln, (d ++ t).Perm m ∧ sl = .slice (some ⟨w.heap.size, 0, none⟩) d.length ln ∧ wr.ownsRow w.heap.size 70 5 (.slice (some ⟨w.heap.size, 0, none⟩) d.length ln) d.length (flatN d) ∧ RangeL Tryz.prog 118 wr b r (m.map entN) (t.map entN) ∧ Below w.heap.size w wr) (fun _ wr => wr.rangeLeft b r)
 case atStart => exact ⟨[], m, List.Perm.refl _, rfl, hown0, hrg0, hb0⟩
 case round =>
  obtain ⟨d, t, hp, rfl, hown, hrg, hb⟩ := hrel
  have hdl : d.length + t.length = ln := by rw [HL.out]; have := hp.length_eq; simpa using this
  go_wp2_with (at_next; refine wpK_next rfl _ rfl b r _ t rfl hrg ?_ ?_)
  ·intro ht
   subst ht
   have hdn : d.length = ln := by simpa using hdl
   have hpd : d.Perm m := by simpa using hp
   have HPD : Hid (d.Perm m) := hpd
   have hH := own_holdsN hown
   have hlt := (hown.lt w.heap.size rfl).2
   have hcall := HO.out w.heap.size ln d wr (by omega) hH hlt
   have HC : Hid (Calls Tryz.prog 68 _ _ _) := hcall
   have HH : Hid (HoldsK encN 5 wr w.heap.size 0 d.toArray) := hH
   have HD : Hid (d.length = ln) := hdn
   clear hH hcall hown hrg hp hpd hdl hdn
   go_wp2_with (go_at_call 68; refine HC.out.mono ?_; rintro e w2 ⟨rfl, d', q, os, hq, hs, rfl⟩)
   go_ret
   refine ⟨w.heap.size, ln, by rw [← HL.out]; show Ending.returned (Value.slice _ d.length ln) = _; rw [HD.out], Nat.le_refl _, rowN_holds (sorted_is HW.out.sorted HPD.out hq hs) (SWK.holds ⟨q, os, rfl⟩ hlt HH.out hq.1), hb.trans (below_sortN wr w.heap.size 0 q d' os hb.size (Nat.le_refl _))⟩
  ·intro za zr zb zc zn t' w1 hp1 hrg1 hg1 hs1 hen
   have hb1 := grown_below hb (Nat.le_of_lt HR.out) hg1
   have hown1 := hown.kept hg1 (Or.inr (by simp [Value.ownBlock]; have := HR.out; omega))
   have HP : Hid (((d ++ [((za, zr, zb), zc, zn)]) ++ t').Perm m) := by
    show _
    rw [List.append_assoc]
    exact ((hp1.symm.append_left d)).trans hp
   have HM : Hid (wr.rangeLeft b r = (t'.map entN).length + 1) := by
    show _ = _
    rw [hrg.left_eq]
    have := hp1.length_eq
    simpa using this
   have hroom : d.length + 1 ≤ ln := by have := hp1.length_eq; simp at this; omega
   have hown2 := fun o o' => (hown1.alloc o).alloc o'
   have hrg2 := fun o o' => (hrg1.kept (World.grownBy_alloc w1 o none) (by simp) (by simp)).kept (World.grownBy_alloc (w1.alloc o) o' none) (by simp) (by simp)
   have hb2 := fun o o' => (hb1.alloc hb1.size o).alloc (by have := hb1.size; simp; omega) o'
   have hne : Hid (w.heap.size ≠ b ∧ w.heap.size ≠ r) := by have := HB.out; have := HR.out; exact ⟨by omega, by omega⟩
   clear hp hp1 hrg hrg1 hg1 hb hown hown1 hb1 hdl
   go_wp2_with (at_builtin; refine wpList_append_fits _ rfl _ _ 67 rfl w.heap.size 70 i0 5 Tryz.underlying67 hi hz1 w.heap.size d.length ln (flatN d) rfl (hown2 _ _) ⟨w1.heap.size + 1, 0, none⟩ 1 1 (encN ((za, zr, zb), zc, zn)) (by simp [Act.eval]) rfl (encN_cells _ ((za, zr, zb), zc, zn) _ _ (by simp)) (encN_one _) hroom ?_; intro w3 hown3 hgr3)
   go_roundw
   case rel =>
    refine ⟨d ++ [((za, zr, zb), zc, zn)], t', HP.out, by simp, ?_, (hrg2 _ _).kept hgr3 (by simp; exact fun e => hne.out.1 e.symm) (by simp; exact fun e => hne.out.2 e.symm), ?_⟩
    ·rw [flatN_snoc]; simpa using hown3
    ·exact (hb2 _ _).trans (Below.mono (B := w.heap.size) ⟨hgr3.os, hgr3.tape, hgr3.output, hgr3.size, fun k hk => hgr3.block k (by have := (hb2 (.cells #[.string za, .int .i64 zr, .int .i64 zb, .string zc] 118) (.cells #[.string za, .int .i64 zr, .int .i64 zb, .string zc, .int .i64 zn] 70)).size; omega) (by simp; omega)⟩ (Nat.le_refl _))
   case measure =>
    show World.rangeLeft _ _ _ < _
    have e3 := ((hrg2 _ _).kept hgr3 (by simp; exact fun e => hne.out.1 e.symm) (by simp; exact fun e => hne.out.2 e.symm)).left_eq
    rw [HM.out, e3]
    exact Nat.lt_succ_self _
end Go.Proofs.YteomomeigbfeoaaGreatDoor
namespace Go.Proofs.YteomomeigbfeoaaGreatDoor
open Go.RowKit Go.Lib Go.Sort
structure Six (w : World) (s : Nat → Addr) : Prop where
 five : Five w s
 text : w.cell? ⟨6, 0, none⟩ = some (err (s 0))
 order : w.cell? ⟨9, 0, none⟩ = some (err (s 9))
theorem Six.below {w w' : World} {s : Nat → Addr} (h : Six w s) (hb : Below w.heap.size w w') : Six w' s where
 five := h.five.below hb
 text := by rw [hb.cell (p := ⟨6, 0, none⟩) (cell_lt h.text)]; exact h.text
 order := by rw [hb.cell (p := ⟨9, 0, none⟩) (cell_lt h.order)]; exact h.order
theorem Six.three {w : World} {s : Nat → Addr} (h : Six w s) : Three w s := ⟨h.five.two, h.text⟩
theorem Sent.six {w : World} {s : Nat → Addr} (h : Sent w s) : Six w s := ⟨h.five, h.cell 0 (by decide), h.cell 9 (by decide)⟩
end Go.Proofs.YteomomeigbfeoaaGreatDoor
namespace Go.Proofs.YteomomeigbfeoaaGreatDoor
open Go.RowKit Go.Lib Go.Sort Go.Shelf
def lineZ (l : Ln) : ByteArray := ((((ptext l.1 ++ ⟨#[32]⟩) ++ l.2.1) ++ ⟨#[32]⟩) ++ ⟨(decDigits l.2.2.toNat).toArray⟩) ++ ⟨#[10]⟩
theorem lineZ_bytes (l : Ln) : (lineZ l).data.toList = lineB l ++ [10] := by
 unfold lineZ lineB pbytes
 simp only [append_bytes]
 simp
theorem ptext_size {x : Pl} (h : okP x = true) : (ptext x).size ≤ 36 := by rw [← size_len]; exact pbytes_len h
theorem joins5 (a c d : ByteArray) (ha : a.size ≤ 36) (hc : c.size ≤ 8) (hd : d.size ≤ 13) : ∃ t1 t2 t3 t4 : ByteArray,
  (∀ w, (Op.stringOp .add a ⟨#[32]⟩).run Tryz.prog w = .ok (.string t1) w) ∧ (∀ w, (Op.stringOp .add t1 c).run Tryz.prog w = .ok (.string t2) w) ∧ (∀ w, (Op.stringOp .add t2 ⟨#[32]⟩).run Tryz.prog w = .ok (.string t3) w) ∧
  (∀ w, (Op.stringOp .add t3 d).run Tryz.prog w = .ok (.string t4) w) ∧ (∀ w, (Op.stringOp .add t4 ⟨#[10]⟩).run Tryz.prog w = .ok (.string (((((a ++ ⟨#[32]⟩) ++ c) ++ ⟨#[32]⟩) ++ d) ++ ⟨#[10]⟩)) w) := by
 have e : (⟨#[32]⟩ : ByteArray).size = 1 := rfl
 have e' : (⟨#[10]⟩ : ByteArray).size = 1 := rfl
 refine ⟨_, _, _, _, fun w => run_string_add_sum w _ _ ?_, fun w => run_string_add_sum w _ _ ?_, fun w => run_string_add_sum w _ _ ?_, fun w => run_string_add_sum w _ _ ?_, fun w => run_string_add_sum w _ _ ?_⟩
 all_goals
  simp only [ByteArray.size_append, e, e']
  omega
theorem fresh_bld (w w1 : World) (hb : Below (w.heap.size + 1) (w.alloc (.cells #[.pointer none, .slice none 0 0] 142)) w1) : Bld w1.heap.size w.heap.size [] w1 := by
 refine ⟨?_, _, _, Or.inl rfl, (hb.block w.heap.size (by omega)).trans (heap_alloc_new w _), World.ownsRow_nil _ _ _ _⟩
 have := hb.size
 simp at this
 omega
theorem RowN.but {w w' : World} {g B b : Nat} {m : List Ln} (h : RowN w g m) (hb : BelowBut B b w w') (hg : g < B) (hn : g ≠ b) : RowN w' g m := h.of_block (hb.block g hg hn)
theorem text_any (w : World) (s : Nat → Addr) (p b : Nat) (m : List Ln) (h : IsStock w p b m) (hs : Two w s) (hp : Pow w) :
  Calls Tryz.prog 34 #[.pointer (some ⟨p, 0, none⟩)] w fun e w' => e = .returned (.string ⟨(textB m).toArray⟩) ∧ Below w.heap.size w w' := by
 have hB : Below w.heap.size w (w.alloc (.cells #[.pointer none, .slice none 0 0] 142)) := (Below.refl _ w).alloc (Nat.le_refl _) _
 have HL : Hid (Calls Tryz.prog 31 _ _ _) := lines_any _ p b m (h.all hB)
 have HW : Hid (Wf m) := h.wf
 have h200 := h.wf.len
 have HPT : Hid (∀ (l : Ln) w1, okN l → Below w.heap.size w w1 → Calls Tryz.prog 74 #[agP l.1] w1 fun e w' => e = .returned (.string (ptext l.1)) ∧ Below w1.heap.size w1 w') := fun l w1 hl hb => ptext_any l.1 w1 s (by have := name_short (okP_bounds hl.1).1; unfold maxLen; omega) (hs.below hb) (hp.below hb)
 have HIT : Hid (∀ (l : Ln) w1, okN l → Below w.heap.size w w1 → Calls Tryz.prog 75 #[.int .i64 l.2.2] w1 fun e w' => e = .returned (.string ⟨(decDigits l.2.2.toNat).toArray⟩) ∧ Below w1.heap.size w1 w') := fun l w1 hl hb => itoa_any l.2.2 (by have := hl.2.2.1; omega) (by have := hl.2.2.2; omega) w1 (hp.below hb)
 have HB : Hid (Below w.heap.size w _) := hB
 clear h hs hp hB
 obtain ⟨ln, hln⟩ : ∃ ln, ln = m.length := ⟨_, rfl⟩
 have HN : Hid (ln = m.length) := hln
 rw [← hln] at HL h200
 clear hln
 go_enter Tryz.func34, Tryz.ntmps34
 go_wp2_with (go_at_call 31; refine HL.out.mono ?_; rintro e w1 ⟨g, cap, rfl, hg, hrow, hb1⟩)
 have hbl := fresh_bld w w1 (by simpa using hb1)
 have hg1 : Hid (ln = 0 ∨ (g < w1.heap.size ∧ g ≠ w.heap.size)) := by
  show _ ∨ _
  rcases Nat.eq_zero_or_pos ln with h0 | h0
  ·exact Or.inl h0
  ·have hlt : 0 < m.length := by rw [← HN.out]; exact h0
   have := (hrow 0 m[0] (List.getElem?_eq_getElem hlt)).lt
   simp at hg
   exact Or.inr ⟨this, by omega⟩
 have hbw : Below w.heap.size w w1 := HB.out.trans (hb1.mono (by simp))
 have HB1 : Hid (w.heap.size < w1.heap.size) := by have := hb1.size; simp at this; show _ < _; omega
 clear HL hb1 hg HB
 generalize hBB : w1.heap.size = B at *
 have HBB : Hid (B ≤ w1.heap.size) := by show _ ≤ _; omega
 clear hBB
 go_loopw [9] (fun i wr => ∃ k : Nat, k ≤ ln ∧ i = .int .i64 k ∧ Bld B w.heap.size (textB (m.take k)) wr ∧ RowN wr g m ∧ Below w.heap.size w wr ∧ B ≤ wr.heap.size) (fun i _ => ln - (RowKit.intOf i).toNat)
 case atStart => exact ⟨0, Nat.zero_le _, rfl, hbl, hrow, hbw, HBB.out⟩
 case round =>
  obtain ⟨k, hk, rfl, hbk, hrk, hwk, hBk⟩ := hrel
  by_cases hlt : k < ln
  ·have hkm : k < m.length := by rw [← HN.out]; exact hlt
   obtain ⟨l, hl⟩ : ∃ l, m[k]? = some l := ⟨_, List.getElem?_eq_getElem hkm⟩
   have hok := HW.out.okN l (List.mem_of_getElem? hl)
   obtain ⟨c0, c1, c2, c3, c4⟩ := hrk k l hl
   have e1 := textB_take_succ hl
   have e2 := textB_take_len HW.out k
   have e3 := lineZ_bytes l
   have hP1 := fun w1 => HPT.out l w1 hok
   have hI1 := fun w1 => HIT.out l w1 hok
   have hjo := joins5 (ptext l.1) l.2.1 ⟨(decDigits l.2.2.toNat).toArray⟩ (ptext_size hok.1) (name_short hok.2.1) (dec_size _ (by have := hok.2.2; omega))
   have hsz : (lineZ l).size ≤ 60 := by
    rw [← size_len, e3, List.length_append]
    have := lineB_len hok
    simp; omega
   have hbox := LineAt.new wr l 70 _ rfl
   unfold lineZ at e3 hsz
   clear hl hok hkm
   obtain ⟨⟨a, r, bb⟩, c, n⟩ := l
   simp only at c0 c1 c2 c3 c4 hP1 hI1 hjo hsz e3 hbox
   obtain ⟨t1, t2, t3, t4, s1, s2, s3, s4, s5⟩ := hjo
   generalize (((((ptext (a, r, bb) ++ ⟨#[32]⟩) ++ c) ++ ⟨#[32]⟩) ++ ⟨(decDigits n.toNat).toArray⟩) ++ ⟨#[10]⟩ : ByteArray) = t5 at *
   generalize ptext (a, r, bb) = tp at *
   generalize (⟨(decDigits n.toNat).toArray⟩ : ByteArray) = td at *
   have HE : Hid (textB (m.take (k + 1)) = textB (m.take k) ++ t5.data.toList) := by show _ = _; rw [e1, e3]
   unfold agP at hP1
   clear e1 e3
   obtain ⟨d0, d1, d2, d3, d4⟩ := hbox
   simp only [Nat.zero_add] at d0 d1 d2 d3 d4
   have HWr : Hid (∀ w3, Bld B w.heap.size (textB (m.take k)) w3 → B ≤ w3.heap.size → Calls Tryz.prog 73 #[.pointer (some ⟨w.heap.size, 0, none⟩), .string t5] w3 fun e w' => e = .returned (.tuple #[.int .i64 t5.size, .nilIface]) ∧ Bld B w.heap.size (textB (m.take k) ++ t5.data.toList) w' ∧ BelowBut B w.heap.size w3 w') := fun w3 h1 h2 => bld_write B w.heap.size _ t5 w3 h1 (by omega) h2
   go_wp2
   have hbx : Below w.heap.size w (wr.alloc (.cells #[.string a, .int .i64 r, .int .i64 bb, .string c, .int .i64 n] 70)).drew := (hwk.alloc hwk.size _).drew
   have hby : Below wr.heap.size wr (wr.alloc (.cells #[.string a, .int .i64 r, .int .i64 bb, .string c, .int .i64 n] 70)).drew := ((Below.refl _ wr).alloc (Nat.le_refl _) _).drew
   have HBK : Hid ((wr.alloc (.cells #[.string a, .int .i64 r, .int .i64 bb, .string c, .int .i64 n] 70)).drew.heap[wr.heap.size]? = some (.cells #[.string a, .int .i64 r, .int .i64 bb, .string c, .int .i64 n] 70)) := heap_alloc_new wr _
   generalize (wr.alloc (.cells #[.string a, .int .i64 r, .int .i64 bb, .string c, .int .i64 n] 70)) = W at *
   go_region_held3 (fun w' => w'.cell? ⟨wr.heap.size, 0, none⟩ = some (.string a) ∧ w'.cell? ⟨wr.heap.size, 1, none⟩ = some (.int .i64 r) ∧ w'.cell? ⟨wr.heap.size, 2, none⟩ = some (.int .i64 bb) ∧ w'.cell? ⟨wr.heap.size, 3, none⟩ = some (.string c) ∧ w'.cell? ⟨wr.heap.size, 4, none⟩ = some (.int .i64 n)) (go_keep)
    (first
     | (go_at_call 74; refine (hP1 _ hbx).mono ?_; rintro e w2 ⟨rfl, hb2⟩; obtain ⟨hc2, _⟩ := bcell hb2; have hlt2 : wr.heap.size < W.drew.heap.size := cell_lt d0; have k0 := (hc2 wr.heap.size 0 hlt2).trans d0; have k1 := (hc2 wr.heap.size 1 hlt2).trans d1; have k2 := (hc2 wr.heap.size 2 hlt2).trans d2; have k3 := (hc2 wr.heap.size 3 hlt2).trans d3; have k4 := (hc2 wr.heap.size 4 hlt2).trans d4; have hbx2 : Below w.heap.size w w2 := hbx.trans (hb2.mono hbx.size); have hby2 : Below wr.heap.size wr w2 := hby.trans (hb2.mono hby.size); clear hc2)
     | (go_at_call 75; refine (hI1 _ hbx2).mono ?_; rintro e w3 ⟨rfl, hb3⟩; obtain ⟨hc3, _⟩ := bcell hb3; have hlt3 : wr.heap.size < w2.heap.size := cell_lt k0; have j0 := (hc3 wr.heap.size 0 hlt3).trans k0; have j1 := (hc3 wr.heap.size 1 hlt3).trans k1; have j2 := (hc3 wr.heap.size 2 hlt3).trans k2; have j3 := (hc3 wr.heap.size 3 hlt3).trans k3; have j4 := (hc3 wr.heap.size 4 hlt3).trans k4; have hbx3 : Below w.heap.size w w3 := hbx2.trans (hb3.mono hbx2.size); have hby3 : Below wr.heap.size wr w3 := hby2.trans (hb3.mono hby2.size); clear hc3)
     | (go_at_call 73; refine (HWr.out _ (bld_own hbk hby3) (Nat.le_trans hBk hby3.size)).mono ?_; rintro e w4 ⟨rfl, hbl4, hbb4⟩; have hk4 := (hbb4.other wr.heap.size _ ((hb3.block _ hlt3).trans ((hb2.block _ hlt2).trans HBK.out)) (by have := HB1.out; omega) (by simp)); have i0 : w4.cell? ⟨wr.heap.size, 0, none⟩ = some (.string a) := (by rw [cell_of_heap hk4]; rfl); have i1 : w4.cell? ⟨wr.heap.size, 1, none⟩ = some (.int .i64 r) := (by rw [cell_of_heap hk4]; rfl); have i2 : w4.cell? ⟨wr.heap.size, 2, none⟩ = some (.int .i64 bb) := (by rw [cell_of_heap hk4]; rfl); have i3 : w4.cell? ⟨wr.heap.size, 3, none⟩ = some (.string c) := (by rw [cell_of_heap hk4]; rfl); have i4 : w4.cell? ⟨wr.heap.size, 4, none⟩ = some (.int .i64 n) := (by rw [cell_of_heap hk4]; rfl); clear hk4))
   go_wp2
   have hgk := hg1.out
   go_roundw
   case rel =>
    refine ⟨k + 1, by omega, by go_num, by rw [HE.out]; exact hbl4, ?_, hbx3.trans ((hbb4.below (Nat.le_of_lt HB1.out)).mono (Nat.le_refl _)), Nat.le_trans hBk (Nat.le_trans hby3.size hbb4.size)⟩
    rcases hgk with h0 | ⟨h1, h2⟩
    ·omega
    ·exact (hrk.below hby3).but hbb4 h1 h2
   case measure => simp [RowKit.intOf]; omega
  ·have hkn : k = ln := by omega
   have e : m.take k = m := List.take_of_length_le (by rw [← HN.out]; omega)
   rw [e] at hbk
   have HS : Hid (Calls Tryz.prog 76 _ _ _) := bld_string B w.heap.size (textB m) wr hbk
   clear hkn e
   go_wp2_with (go_at_call 76; refine HS.out.mono ?_; rintro e w2 ⟨rfl, hb2⟩)
   go_ret
   exact ⟨rfl, hwk.trans hb2⟩
end Go.Proofs.YteomomeigbfeoaaGreatDoor
namespace Go.Proofs.YteomomeigbfeoaaGreatDoor
open Go.RowKit Go.Lib Go.Sort
theorem BoxAt.grown {q b : Nat} {x : Pl} {W W' : World} (h : BoxAt q x W) (hg : W.grownBy W' (some b)) (hne : q ≠ b) : BoxAt q x W' := by
 have hlt : q < W.heap.size := cell_lt h.c0
 have hb := hg.block q hlt (by simp; exact hne)
 exact ⟨(World.cell?_of_block (a := ⟨q, 0, none⟩) hb).trans h.c0, (World.cell?_of_block (a := ⟨q, 1, none⟩) hb).trans h.c1, (World.cell?_of_block (a := ⟨q, 2, none⟩) hb).trans h.c2⟩
structure Old (w : World) (s : Nat → Addr) : Prop where
 five : Five w s
 pow : Pow w
theorem Old.below {w w' : World} {s : Nat → Addr} (h : Old w s) (hb : Below w.heap.size w w') : Old w' s := ⟨h.five.below hb, h.pow.below hb⟩
end Go.Proofs.YteomomeigbfeoaaGreatDoor
namespace Go.Proofs.YteomomeigbfeoaaGreatDoor
open Go.RowKit Go.Lib Go.Sort
def txt (m : List Ln) : ByteArray := ⟨(textB m).toArray⟩
structure Old6 (w : World) (s : Nat → Addr) : Prop where
 six : Six w s
 pow : Pow w
theorem Old6.below {w w' : World} {s : Nat → Addr} (h : Old6 w s) (hb : Below w.heap.size w w') : Old6 w' s := ⟨h.six.below hb, h.pow.below hb⟩
theorem Old6.old {w : World} {s : Nat → Addr} (h : Old6 w s) : Old w s := ⟨h.six.five, h.pow⟩
section
variable {W : World} {s : Nat → Addr} (hO : Old6 W s)
include hO
theorem lawText : ∀ w1 p b m, IsStock w1 p b m → Below W.heap.size W w1 → Calls Tryz.prog 34 #[.pointer (some ⟨p, 0, none⟩)] w1 fun e w' => e = .returned (.string (txt m)) ∧ IsStock w' p b m ∧ Below W.heap.size W w' ∧ Below w1.heap.size w1 w' := fun w1 p b m hi hb =>
 (text_any w1 s p b m hi (hO.six.five.two.below hb) (hO.pow.below hb)).mono fun _ _ ⟨he, hb'⟩ => ⟨he, hi.all hb', hb.trans (hb'.mono hb.size), hb'⟩
end
end Go.Proofs.YteomomeigbfeoaaGreatDoor
namespace Go.Proofs.YteomomeigbfeoaaGreatDoor
open Go.RowKit Go.Lib Go.Sort
theorem numK_val {l : List UInt8} (h : isNum 13 l = true) : numR 13 l = numVal l := by rw [numR_yes h]
theorem kline_any (x : ByteArray) (w : World) (s : Nat → Addr) (hz : x.size < 4294967281) (hs : Three w s) :
  Calls Tryz.prog 71 #[.string x, .bool true] w fun e w' => e = .returned (.tuple #[agN (readN x.data.toList).1, errP s (readN x.data.toList).2]) ∧ Below w.heap.size w w' := by
 have e0 : ∀ c, lnErr x.data.toList = c → c ≠ 0 → readN x.data.toList = (zeroN, c) := fun c h hc => by unfold readN; rw [if_neg (by rw [h]; exact hc), h]
 cases h : wordsK x.data.toList with
 | false =>
  rw [e0 1 (by unfold lnErr numK; rw [h]; rfl) (by decide)]
  exact kline_few x w s hz hs h
 | true =>
  cases h1 : isNum 13 (cutB 32 (cutB 32 x.data.toList)) with
  | false =>
   rw [e0 1 (by unfold lnErr numK; rw [h, h1]; rfl) (by decide)]
   exact kline_num x w s hz hs h h1
  | true =>
   have hk : numK x.data.toList = true := by unfold numK; rw [h, h1]; rfl
   by_cases h2 : (readP (cutA 32 x.data.toList)).2 = 0
   ·cases h3 : isName (cutA 32 (cutB 32 x.data.toList)) with
    | false =>
     rw [e0 5 (by unfold lnErr; rw [if_pos hk, if_pos h2, h3]; rfl) (by decide)]
     exact kline_name x w s hz hs h h1 h2 h3
    | true =>
     cases h4 : numW (numR 13 (cutB 32 (cutB 32 x.data.toList))) with
     | false =>
      have h4' := h4
      rw [numK_val h1] at h4'
      rw [e0 2 (by unfold lnErr; rw [if_pos hk, if_pos h2, if_pos h3, h4']; rfl) (by decide)]
      exact kline_bound x w s hz hs h h1 h2 h3 h4
     | true =>
      have h4' := h4
      rw [numK_val h1] at h4'
      have e1 : lnErr x.data.toList = 0 := by unfold lnErr; rw [if_pos hk, if_pos h2, if_pos h3, if_pos h4']
      have e2 : readN x.data.toList = (((readP (cutA 32 x.data.toList)).1, ⟨(cutA 32 (cutB 32 x.data.toList)).toArray⟩, numR 13 (cutB 32 (cutB 32 x.data.toList))), 0) := by unfold readN; rw [if_pos e1, numK_val h1]; rfl
      rw [e2]
      exact kline_in x w s hz hs h h1 h2 h3 h4
   ·rw [e0 (readP (cutA 32 x.data.toList)).2 (by unfold lnErr; rw [if_pos hk, if_neg h2]) h2]
    exact kline_place x w s hz hs h h1 h2
def behE (m : List Ln) (a x : Ln) : Nat := if aheadN a x = true then putE m x.1 x.2.1 x.2.2 else 10
def behL (m : List Ln) (a x : Ln) : List Ln := if aheadN a x = true then putL m x.1 x.2.1 x.2.2 else m
theorem putB_any (a x : Ln) (w : World) (s : Nat → Addr) (p b : Nat) (m : List Ln) (h : IsStock w p b m) (hz : x.1.1.size ≤ maxLen) (hz' : x.2.1.size ≤ maxLen) (hs : Five w s) (ho : w.cell? ⟨9, 0, none⟩ = some (err (s 9))) :
  Calls Tryz.prog 72 #[.pointer (some ⟨p, 0, none⟩), agN a, agN x] w fun e w' => e = .returned (errP s (behE m a x)) ∧ IsStock w' p b (behL m a x) ∧ w.grownBy w' (some b) := by
 have hg := boxN2_grew w a x
 have hx1 := boxN2_first w a x
 have hx2 := boxN2_second w a x
 have hC := kcompare_any a x (boxN2 w a x)
 have hlt := cell_lt ho
 have HP : Hid (∀ w1, Below w.heap.size w w1 → Calls Tryz.prog 116 #[.pointer (some ⟨p, 0, none⟩), agP x.1, .string x.2.1, .int .i64 x.2.2] w1 fun e w' => e = .returned (errP s (putE m x.1 x.2.1 x.2.2)) ∧ IsStock w' p b (putL m x.1 x.2.1 x.2.2) ∧ w1.grownBy w' (some b)) := fun w1 hb => put_any x.1 x.2.1 x.2.2 w1 s p b m (h.all hb) hz hz' (hs.below hb)
 have HO : Hid (∀ w1, Below w.heap.size w w1 → w1.cell? ⟨9, 0, none⟩ = some (err (s 9))) := fun w1 hb => by rw [hb.cell (p := ⟨9, 0, none⟩) hlt]; exact ho
 have HS : Hid (∀ w1, Below w.heap.size w w1 → IsStock w1 p b m) := fun w1 hb => h.all hb
 have ha : aheadN a x = decide (cmpN a x < 0) := rfl
 by_cases hab : aheadN a x = true
 ·have hc : ¬ (0 ≤ cmpN a x) := by rw [ha] at hab; simp at hab; omega
  unfold behE behL
  rw [if_pos hab, if_pos hab]
  clear hab ha h hz hz' hs ho hlt
  generalize putE m x.1 x.2.1 x.2.2 = E at *
  generalize putL m x.1 x.2.1 x.2.2 = M at *
  generalize cmpN a x = cc at *
  have hd : decide (0 ≤ cc) = false := decide_eq_false hc
  obtain ⟨⟨a0, a1, a2⟩, a3, a4⟩ := a
  obtain ⟨⟨x0, x1, x2⟩, x3, x4⟩ := x
  unfold agN agP boxN2 at *
  simp only at *
  have HC : Hid (Calls Tryz.prog 69 _ _ _) := hC
  have HG : Hid (Grew w _) := hg
  clear hC hg
  obtain ⟨u0, u1, u2, u3, u4⟩ := hx1
  obtain ⟨v0, v1, v2, v3, v4⟩ := hx2
  simp only [Nat.zero_add] at u0 u1 u2 u3 u4 v0 v1 v2 v3 v4
  go_enter Tryz.func72, Tryz.ntmps72
  go_wp2_with (first
   | (go_at_call 69; refine HC.out.mono ?_; rintro e w1 ⟨rfl, hg1⟩; have k0 := hg1.keep v0; have k1 := hg1.keep v1; have k2 := hg1.keep v2; have k3 := hg1.keep v3; have k4 := hg1.keep v4; have hb1 := (HG.out.trans hg1).below)
   | (go_at_call 116; refine (HP.out _ hb1).mono ?_; rintro e w2 ⟨rfl, hi2, hg2⟩))
  go_ret
  exact ⟨rfl, hi2, grown_trans (Below.grownAll hb1 _) hg2⟩
 ·have hc : 0 ≤ cmpN a x := by rw [ha] at hab; simp at hab; omega
  unfold behE behL
  rw [if_neg hab, if_neg hab]
  clear hab ha h hz hz' hs ho hlt HP
  generalize cmpN a x = cc at *
  have hd : decide (0 ≤ cc) = true := decide_eq_true hc
  obtain ⟨⟨a0, a1, a2⟩, a3, a4⟩ := a
  obtain ⟨⟨x0, x1, x2⟩, x3, x4⟩ := x
  unfold agN boxN2 at *
  simp only at *
  have HC : Hid (Calls Tryz.prog 69 _ _ _) := hC
  have HG : Hid (Grew w _) := hg
  clear hC hg
  obtain ⟨u0, u1, u2, u3, u4⟩ := hx1
  obtain ⟨v0, v1, v2, v3, v4⟩ := hx2
  simp only [Nat.zero_add] at u0 u1 u2 u3 u4 v0 v1 v2 v3 v4
  go_enter Tryz.func72, Tryz.ntmps72
  go_wp2_with (go_at_call 69; refine HC.out.mono ?_; rintro e w1 ⟨rfl, hg1⟩; have hb1 := (HG.out.trans hg1).below; have g := HO.out _ hb1)
  go_ret
  exact ⟨rfl, HS.out _ hb1, Below.grownAll hb1 _⟩
def ReadRes (w w' : World) (s : Nat → Addr) (e : Ending) (R : List Ln × Nat × Nat) : Prop :=
 (R.2.1 = 0 ∧ ∃ p b, e = .returned (.tuple #[.pointer (some ⟨p, 0, none⟩), .nilIface]) ∧ w.heap.size ≤ p ∧ w.heap.size ≤ b ∧ IsStock w' p b R.1) ∨
 (R.2.1 ≠ 0 ∧ ∃ f, e = .returned (.tuple #[.pointer none, .iface 126 (.pointer (some ⟨f, 0, none⟩))]) ∧ w.heap.size ≤ f ∧ w'.cell? ⟨f, 0, none⟩ = some (.int .i64 R.2.2) ∧ w'.cell? ⟨f, 1, none⟩ = some (err (s (R.2.1 - 1))))
def BlkN (w : World) (q : Nat) (a : Ln) : Prop := w.heap[q]? = some (.cells #[.string a.1.1, .int .i64 a.1.2.1, .int .i64 a.1.2.2, .string a.2.1, .int .i64 a.2.2] 70 (0, 0))
theorem BlkN.line {w : World} {q : Nat} {a : Ln} (h : BlkN w q a) : LineAt w q 0 a where
 c0 := by rw [cell_of_heap h]; rfl
 c1 := by rw [cell_of_heap h]; rfl
 c2 := by rw [cell_of_heap h]; rfl
 c3 := by rw [cell_of_heap h]; rfl
 c4 := by rw [cell_of_heap h]; rfl
theorem BlkN.frozen {w : World} {q : Nat} {a : Ln} (h : BlkN w q a) (o : Nat) : w.frozen? ⟨q, o, none⟩ = false := frozen_of_heap h o
theorem BlkN.lt {w : World} {q : Nat} {a : Ln} (h : BlkN w q a) : q < w.heap.size := h.line.lt
theorem BlkN.below {w w' : World} {q : Nat} {a : Ln} (h : BlkN w q a) (hb : Below w.heap.size w w') : BlkN w' q a := (hb.block q h.lt).trans h
abbrev set5 (w : World) (q : Nat) (a : Ln) : World := ((((w.setCell ⟨q, 0, none⟩ (.string a.1.1)).setCell ⟨q, 1, none⟩ (.int .i64 a.1.2.1)).setCell ⟨q, 2, none⟩ (.int .i64 a.1.2.2)).setCell ⟨q, 3, none⟩ (.string a.2.1)).setCell ⟨q, 4, none⟩ (.int .i64 a.2.2)
theorem BlkN.set5 {w : World} {q : Nat} {a : Ln} (h : BlkN w q a) (x : Ln) : BlkN (set5 w q x) q x := by
 have h1 := Joins.block_setCell (i := 0) h (.string x.1.1)
 have h2 := Joins.block_setCell (i := 1) h1 (.int .i64 x.1.2.1)
 have h3 := Joins.block_setCell (i := 2) h2 (.int .i64 x.1.2.2)
 have h4 := Joins.block_setCell (i := 3) h3 (.string x.2.1)
 have h5 := Joins.block_setCell (i := 4) h4 (.int .i64 x.2.2)
 unfold BlkN
 rw [h5]
 rfl
theorem set5_other (w : World) (q : Nat) (x : Ln) (k : Nat) (h : k ≠ q) : (set5 w q x).heap[k]? = w.heap[k]? := by
 unfold set5
 rw [Below.heap_setCell _ _ _ _ h, Below.heap_setCell _ _ _ _ h, Below.heap_setCell _ _ _ _ h, Below.heap_setCell _ _ _ _ h, Below.heap_setCell _ _ _ _ h]
structure RdInv (w wr : World) (p b q : Nat) (m : List Ln) (a : Ln) : Prop where
 st : IsStock wr p b m
 ah : BlkN wr q a
 bl : Below w.heap.size w wr
 hp : w.heap.size ≤ p
 hb : w.heap.size ≤ b
 hq : w.heap.size ≤ q
 hqp : p ≠ q
 hqb : b ≠ q
theorem RdInv.later {w wr w' : World} {p b q : Nat} {m : List Ln} {a : Ln} (h : RdInv w wr p b q m a) (hb : Below wr.heap.size wr w') : RdInv w w' p b q m a :=
 ⟨h.st.all hb, h.ah.below hb, h.bl.trans (hb.mono h.bl.size), h.hp, h.hb, h.hq, h.hqp, h.hqb⟩
theorem RdInv.grown {w wr w' : World} {p b q : Nat} {m m' : List Ln} {a : Ln} (h : RdInv w wr p b q m a) (hg : wr.grownBy w' (some b)) (hs : IsStock w' p b m') : RdInv w w' p b q m' a :=
 ⟨hs, (hg.block q h.ah.lt (by simp; exact fun e => h.hqb e.symm)).trans h.ah, grown_below h.bl h.hb hg, h.hp, h.hb, h.hq, h.hqp, h.hqb⟩
theorem RdInv.set {w wr : World} {p b q : Nat} {m : List Ln} {a : Ln} (h : RdInv w wr p b q m a) (x : Ln) : RdInv w (set5 wr q x) p b q m x :=
 ⟨⟨(World.cell?_of_block (a := ⟨p, 0, none⟩) (set5_other wr q x p h.hqp)).trans h.st.cell, h.st.map.of_block (set5_other wr q x b h.hqb), h.st.wf⟩, h.ah.set5 x, below_set5 h.bl h.hq _ _ _ _ _, h.hp, h.hb, h.hq, h.hqp, h.hqb⟩
def lastOr (m : List Ln) : Ln := m.getLast?.getD zeroN
theorem zeroN_ahead {x : Ln} (h : okN x) : aheadN zeroN x = true := by
 have hn := (okP_bounds h.1).1
 have hne : x.1.1.data.toList ≠ [] := by
  intro e; unfold isName at hn; rw [e] at hn; simp at hn
 have hz : zLt ⟨#[]⟩ x.1.1 = true := by
  unfold zLt
  cases hx : x.1.1.data.toList with
  | nil => exact absurd hx hne
  | cons a l => simp
 rw [aheadN_parts, if_neg]
 ·rw [aheadP_iff]
  exact Or.inl hz
 ·intro e
  rw [← e] at hne
  exact hne rfl
theorem ahead_behind (m : List Ln) {x : Ln} (h : okN x) : aheadN (lastOr m) x = behind m x := by
 unfold lastOr behind
 cases m.getLast? with
 | none => exact zeroN_ahead h
 | some l => rfl
theorem behE_step {m : List Ln} {l : List UInt8} (h : lnErr l = 0) : behE m (lastOr m) (lnOf l) = stepE m l := by
 have hok := (lnOf_facts h).1
 unfold behE stepE
 rw [if_pos h, ahead_behind m hok]
theorem behL_step {m : List Ln} {l : List UInt8} (h0 : stepE m l = 0) : behL m (lastOr m) (lnOf l) = stepM m l := by
 obtain ⟨h1, h2, h3⟩ := stepE_zero h0
 have hok := (lnOf_facts h1).1
 unfold behL stepM
 rw [ahead_behind m hok, if_pos h2]
theorem behL_err {m : List Ln} {a x : Ln} (h : behE m a x ≠ 0) : behL m a x = m := by
 unfold behE at h
 unfold behL
 split
 ·rename_i ha
  rw [if_pos ha] at h
  exact putL_err h
 ·rfl
theorem lastOr_step {m : List Ln} (hs : Sorted m) {l : List UInt8} (h0 : stepE m l = 0) : lastOr (stepM m l) = lnOf l := by
 rw [stepM_last hs h0]; unfold lastOr; simp
def szOf : Value → Nat
 | .string s => s.size
 | _ => 0
theorem szOf_list (l : List UInt8) : szOf (.string ⟨l.toArray⟩) = l.length := mk_size l
structure Left (R : List Ln × Nat × Nat) (l : List UInt8) (i : Nat) (m : List Ln) : Prop where
 eq : R = readS m i (splitL 10 l)
 wf : Wf m
 len : l.length + i ≤ 20000
theorem Left.done {R : List Ln × Nat × Nat} {i : Nat} {m : List Ln} (h : Left R [] i m) : R = (m, 0, 0) := by
 rw [h.eq, split_none rfl, readS_last]; simp
theorem Left.cut {R : List Ln × Nat × Nat} {l : List UInt8} {i : Nat} {m : List Ln} (h : Left R l i m) (h1 : has 10 l = false) (h2 : l ≠ []) : R = ([], 1, i) := by
 rw [h.eq, split_none h1, readS_last, if_neg h2]
theorem Left.bad {R : List Ln × Nat × Nat} {l : List UInt8} {i : Nat} {m : List Ln} (h : Left R l i m) (h1 : has 10 l = true) (h2 : stepE m (pre 10 l) ≠ 0) : R = ([], stepE m (pre 10 l), i) := by
 rw [h.eq, split_some h1, readS_step _ _ _ (split_pos 10 _), if_neg h2]
theorem Left.good {R : List Ln × Nat × Nat} {l : List UInt8} {i : Nat} {m : List Ln} (h : Left R l i m) (h1 : has 10 l = true) (h2 : stepE m (pre 10 l) = 0) : Left R (post 10 l) (i + 1) (stepM m (pre 10 l)) ∧ (post 10 l).length < l.length := by
 have hlt := pre_length_lt 10 l h1
 have hpl : (post 10 l).length < l.length := by rw [← drop_pre, List.length_drop]; omega
 refine ⟨⟨?_, h.wf.put _ _ _, by have := h.len; omega⟩, hpl⟩
 rw [h.eq, split_some h1, readS_step _ _ _ (split_pos 10 _), if_pos h2]
theorem kread_in (x : ByteArray) (w : World) (s : Nat → Addr) (hz : x.size ≤ 20000) (hs : Six w s) :
  Calls Tryz.prog 33 #[.string x] w fun e w' => ReadRes w w' s e (readS [] 0 (splitL 10 x.data.toList)) ∧ Below w.heap.size w w' := by
 have hL : Left (readS [] 0 (splitL 10 x.data.toList)) x.data.toList 0 [] := ⟨rfl, Wf.nil, by rw [size_len]; omega⟩
 generalize readS [] 0 (splitL 10 x.data.toList) = R at *
 have HS : Hid (∀ w1, Below w.heap.size w w1 → Six w1 s) := fun w1 hb => hs.below hb
 clear hs
 have HX : Hid (x = ⟨x.data.toList.toArray⟩) := by show _ = _; simp
 generalize x.data.toList = l0 at *
 have hx := HX.out
 subst hx
 rw [mk_size] at hz
 have hz' : (⟨l0.toArray⟩ : ByteArray).size ≤ 20000 := by rw [mk_size]; exact hz
 clear HX
 go_enter Tryz.func33, Tryz.ntmps33
 go_wp2_with (go_at_call 60; refine (new_any _).mono ?_; rintro e w1 ⟨rfl, hi1, hb1⟩)
 have hI : RdInv w (w1.alloc (.cells #[.string ⟨#[]⟩, .int .i64 0, .int .i64 0, .string ⟨#[]⟩, .int .i64 0] 70)) (w.heap.size + 1) w.heap.size w1.heap.size [] (lastOr []) := by
  have hb2 : Below w1.heap.size w1 (w1.alloc (.cells #[.string ⟨#[]⟩, .int .i64 0, .int .i64 0, .string ⟨#[]⟩, .int .i64 0] 70)) := (Below.refl _ w1).alloc (Nat.le_refl _) _
  have hlt := hi1.lt
  exact ⟨hi1.all hb2, heap_alloc_new w1 _, hb1.alloc hb1.size _, by omega, Nat.le_refl _, hb1.size, by omega, by omega⟩
 generalize w1.alloc (.cells #[.string ⟨#[]⟩, .int .i64 0, .int .i64 0, .string ⟨#[]⟩, .int .i64 0] 70) = w2 at *
 clear hi1 hb1
 generalize w1.heap.size = q at *
 generalize w.heap.size + 1 = p at *
 obtain ⟨b, hbv⟩ : ∃ b, b = w.heap.size := ⟨_, rfl⟩
 have hI' : RdInv w w2 p b q [] (lastOr []) := by rw [hbv]; exact hI
 clear hI hbv
 go_loopw [0, 6] (fun sv iv wr => ∃ (l : List UInt8) (i : Nat) (m : List Ln), sv = .string ⟨l.toArray⟩ ∧ iv = .int .i64 i ∧ RdInv w wr p b q m (lastOr m) ∧ Left R l i m) (fun sv _ _ => szOf sv)
 case atStart => exact ⟨l0, 0, [], rfl, rfl, hI', hL⟩
 case round =>
  clear hz hz' hL hI'
  obtain ⟨l, i, m, rfl, rfl, hI, hl⟩ := hrel
  by_cases hne : l = []
  ·subst hne
   have hR := hl.done
   have HR : Hid (R = (m, 0, 0)) := hR
   clear hR hl
   go_wp2
   go_ret2
   exact ⟨Or.inl ⟨by rw [HR.out], _, _, rfl, hI.hp, hI.hb, by rw [HR.out]; exact hI.st⟩, hI.bl⟩
  ·have hlen := hl.len
   have hsz : (⟨l.toArray⟩ : ByteArray).size ≤ 20000 := by rw [mk_size]; omega
   have e3 := isEmpty_of (⟨l.toArray⟩ : ByteArray) (by rw [mk_size]; exact List.length_pos_iff.2 hne)
   have hcut := scut_any ⟨l.toArray⟩ 10 wr (by unfold maxLen; omega)
   rw [bytes_toList] at hcut
   have hi63 : (i : Int) + 1 ≤ 9223372036854775807 := by omega
   cases hh : has 10 l with
   | false =>
    have HR : Hid (R = ([], 1, i)) := hl.cut hh hne
    have ecA : cutA 10 l = l := by unfold cutA; rw [hh]; rfl
    rw [hh, ecA] at hcut
    have hrl := fun w3 (hb : Below w.heap.size w w3) => kline_cut ⟨l.toArray⟩ w3 s (by omega) (HS.out w3 hb).three
    unfold agN zeroN zeroP at hrl
    simp only at hrl
    have HC : Hid (Calls Tryz.prog 70 _ _ _) := hcut
    have HI : Hid (RdInv w wr p b q m (lastOr m)) := hI
    clear hcut hl hI ecA hh hne
    generalize (⟨(cutB 10 l).toArray⟩ : ByteArray) = zB at *
    generalize (⟨l.toArray⟩ : ByteArray) = zL at *
    go_wp2_with (first
     | (go_at_call 70; refine HC.out.mono ?_; rintro e w3 ⟨rfl, n, rfl⟩; have hI3 := HI.out.later (below_drewN (Below.refl _ wr) n))
     | (go_at_call 71; refine (hrl _ hI3.bl).mono ?_; rintro e w4 ⟨rfl, hb4⟩; have hI4 := hI3.later hb4))
    go_ret2
    refine ⟨Or.inr ⟨by rw [HR.out]; exact Nat.one_ne_zero, _, rfl, ?_, by rw [HR.out]; simp, by rw [HR.out]; simp⟩, ?_⟩
    ·have := hI4.bl.size; simp; omega
    ·exact (hI4.bl.alloc hI4.bl.size _).alloc (by have := hI4.bl.size; simp; omega) _
   | true =>
    have ecA : cutA 10 l = pre 10 l := cutA_yes hh
    have ecB : cutB 10 l = post 10 l := cutB_yes hh
    rw [hh, ecA, ecB] at hcut
    have hple := pre_length_le 10 l
    have hsp : (⟨(pre 10 l).toArray⟩ : ByteArray).size ≤ 20000 := by rw [mk_size]; omega
    have hrl := fun w3 (hb : Below w.heap.size w w3) => kline_any ⟨(pre 10 l).toArray⟩ w3 s (by omega) (HS.out w3 hb).three
    rw [bytes_toList] at hrl
    have HC : Hid (Calls Tryz.prog 70 _ _ _) := hcut
    have HI : Hid (RdInv w wr p b q m (lastOr m)) := hI
    by_cases hln : lnErr (pre 10 l) = 0
    ·have ern : readN (pre 10 l) = (lnOf (pre 10 l), 0) := by unfold readN; rw [if_pos hln]
     rw [ern, errP_zero] at hrl
     have hok := (lnOf_facts hln).1
     have hpb := fun w3 (hst : IsStock w3 p b m) (h6 : Six w3 s) => putB_any (lastOr m) (lnOf (pre 10 l)) w3 s p b m hst (by have := name_short (okP_bounds hok.1).1; unfold maxLen; omega) (by have := name_short hok.2.1; unfold maxLen; omega) h6.five h6.order
     rw [behE_step hln] at hpb
     by_cases hs0 : stepE m (pre 10 l) = 0
     ·obtain ⟨hl', hpl⟩ := hl.good hh hs0
      rw [behL_step hs0, hs0, errP_zero] at hpb
      have hlast := lastOr_step hl.wf.sorted hs0
      have HL' : Hid (Left R (post 10 l) (i + 1) (stepM m (pre 10 l))) := hl'
      have HLa : Hid (lastOr (stepM m (pre 10 l)) = lnOf (pre 10 l)) := hlast
      have HPL : Hid ((post 10 l).length < l.length) := hpl
      clear hcut hl hI ecA ecB hh hne hl' hlast hpl hok ern hln hs0 hple hsp
      generalize stepM m (pre 10 l) = m' at *
      generalize lnOf (pre 10 l) = x at *
      generalize lastOr m = a at *
      obtain ⟨⟨x0, x1, x2⟩, x3, x4⟩ := x
      obtain ⟨⟨a0, a1, a2⟩, a3, a4⟩ := a
      unfold agN at hrl hpb
      simp only at hrl hpb
      have HZB : Hid (szOf (.string (⟨(post 10 l).toArray⟩ : ByteArray)) < szOf (.string (⟨l.toArray⟩ : ByteArray))) := by show _ < _; rw [szOf_list, szOf_list]; exact HPL.out
      generalize (⟨(pre 10 l).toArray⟩ : ByteArray) = zA at *
      obtain ⟨zB, hzB⟩ : ∃ zB : ByteArray, zB = ⟨(post 10 l).toArray⟩ := ⟨_, rfl⟩
      have HZ : Hid (zB = ⟨(post 10 l).toArray⟩) := hzB
      rw [← hzB] at HC HZB
      clear hzB
      generalize (⟨l.toArray⟩ : ByteArray) = zL at *
      go_wp2_with (first
       | (go_at_call 70; refine HC.out.mono ?_; rintro e w3 ⟨rfl, n, rfl⟩; have hI3 := HI.out.later (below_drewN (Below.refl _ wr) n))
       | (go_at_call 71; refine (hrl _ hI3.bl).mono ?_; rintro e w4 ⟨rfl, hb4⟩; have hI4 := hI3.later hb4; have hI5 := hI4.later ((Below.refl _ w4).alloc (Nat.le_refl _) (.cells #[.string x0, .int .i64 x1, .int .i64 x2, .string x3, .int .i64 x4] 70)); obtain ⟨k0, k1, k2, k3, k4⟩ := hI5.ah.line; obtain ⟨n0, n1, n2, n3, n4⟩ := LineAt.new w4 ((x0, x1, x2), x3, x4) 70 _ rfl; simp only [Nat.zero_add] at k0 k1 k2 k3 k4 n0 n1 n2 n3 n4)
       | (go_at_call 72; refine (hpb _ hI5.st (HS.out _ hI5.bl)).mono ?_; rintro e w6 ⟨rfl, hi6, hg6⟩; have hI6 := hI5.grown hg6 hi6; obtain ⟨j0, j1, j2, j3, j4⟩ := hI6.ah.line; have hf6 := hI6.ah.frozen; obtain ⟨o0, o1, o2, o3, o4⟩ := (LineAt.new w4 ((x0, x1, x2), x3, x4) 70 _ rfl).of_block (hg6.block _ (by simp) (by simp; intro e; have := hI4.st.lt.2; omega)); simp only [Nat.zero_add] at j0 j1 j2 j3 j4 o0 o1 o2 o3 o4))
      go_roundw
      case rel =>
       exact ⟨post 10 l, i + 1, m', by rw [HZ.out], by go_num, by rw [HLa.out]; exact hI6.set ((x0, x1, x2), x3, x4), HL'.out⟩
      case measure => exact HZB.out
     ·have HR : Hid (R = ([], stepE m (pre 10 l), i)) := hl.bad hh hs0
      have HE : Hid (stepE m (pre 10 l) ≠ 0) := hs0
      rw [behL_err (by rw [behE_step hln]; exact hs0), errP_pos s hs0] at hpb
      clear hcut hl hI ecA ecB hh hne hok ern hln hs0 hple hsp
      generalize stepE m (pre 10 l) = E at *
      generalize lnOf (pre 10 l) = x at *
      generalize lastOr m = a at *
      obtain ⟨⟨x0, x1, x2⟩, x3, x4⟩ := x
      obtain ⟨⟨a0, a1, a2⟩, a3, a4⟩ := a
      unfold agN at hrl hpb
      simp only at hrl hpb
      generalize (⟨(pre 10 l).toArray⟩ : ByteArray) = zA at *
      generalize (⟨(post 10 l).toArray⟩ : ByteArray) = zB at *
      generalize (⟨l.toArray⟩ : ByteArray) = zL at *
      go_wp2_with (first
       | (go_at_call 70; refine HC.out.mono ?_; rintro e w3 ⟨rfl, n, rfl⟩; have hI3 := HI.out.later (below_drewN (Below.refl _ wr) n))
       | (go_at_call 71; refine (hrl _ hI3.bl).mono ?_; rintro e w4 ⟨rfl, hb4⟩; have hI4 := hI3.later hb4; have hI5 := hI4.later ((Below.refl _ w4).alloc (Nat.le_refl _) (.cells #[.string x0, .int .i64 x1, .int .i64 x2, .string x3, .int .i64 x4] 70)); obtain ⟨k0, k1, k2, k3, k4⟩ := hI5.ah.line; obtain ⟨n0, n1, n2, n3, n4⟩ := LineAt.new w4 ((x0, x1, x2), x3, x4) 70 _ rfl; simp only [Nat.zero_add] at k0 k1 k2 k3 k4 n0 n1 n2 n3 n4)
       | (go_at_call 72; refine (hpb _ hI5.st (HS.out _ hI5.bl)).mono ?_; rintro e w6 ⟨rfl, hi6, hg6⟩; have hI6 := hI5.grown hg6 hi6))
      go_ret2
      refine ⟨Or.inr ⟨by rw [HR.out]; exact HE.out, _, rfl, ?_, by rw [HR.out]; simp, by rw [HR.out]; simp⟩, ?_⟩
      ·have := hI6.bl.size; simp; omega
      ·exact hI6.bl.alloc hI6.bl.size _
    ·have hs0 : stepE m (pre 10 l) = lnErr (pre 10 l) := by unfold stepE; rw [if_neg hln]
     have HR : Hid (R = ([], lnErr (pre 10 l), i)) := by
      show _ = _
      rw [← hs0]; exact hl.bad hh (by rw [hs0]; exact hln)
     have HE : Hid (lnErr (pre 10 l) ≠ 0) := hln
     have ern : readN (pre 10 l) = (zeroN, lnErr (pre 10 l)) := by unfold readN; rw [if_neg hln]
     rw [ern, errP_pos s hln] at hrl
     clear hcut hl hI ecA ecB hh hne ern hln hs0 hple hsp
     generalize lnErr (pre 10 l) = E at *
     unfold agN zeroN zeroP at hrl
     simp only at hrl
     generalize (⟨(pre 10 l).toArray⟩ : ByteArray) = zA at *
     generalize (⟨(post 10 l).toArray⟩ : ByteArray) = zB at *
     generalize (⟨l.toArray⟩ : ByteArray) = zL at *
     go_wp2_with (first
      | (go_at_call 70; refine HC.out.mono ?_; rintro e w3 ⟨rfl, n, rfl⟩; have hI3 := HI.out.later (below_drewN (Below.refl _ wr) n))
      | (go_at_call 71; refine (hrl _ hI3.bl).mono ?_; rintro e w4 ⟨rfl, hb4⟩; have hI4 := hI3.later hb4))
     go_ret2
     refine ⟨Or.inr ⟨by rw [HR.out]; exact HE.out, _, rfl, ?_, by rw [HR.out]; simp, by rw [HR.out]; simp⟩, ?_⟩
     ·have := hI4.bl.size; simp; omega
     ·exact (hI4.bl.alloc hI4.bl.size _).alloc (by have := hI4.bl.size; simp; omega) _
end Go.Proofs.YteomomeigbfeoaaGreatDoor
namespace Go.Proofs.YteomomeigbfeoaaGreatDoor
open Go.RowKit Go.Lib Go.Sort
section
variable {W : World} {s : Nat → Addr} (hO : Old6 W s)
include hO
theorem lawBack : ∀ w1 m, Wf m → Below W.heap.size W w1 → Calls Tryz.prog 33 #[.string (txt m)] w1 fun e w' => ∃ p b, e = .returned (.tuple #[.pointer (some ⟨p, 0, none⟩), .nilIface]) ∧ IsStock w' p b m ∧ Below W.heap.size W w' ∧ Below w1.heap.size w1 w' := fun w1 m hw hb => by
 have hsz : (txt m).size ≤ 20000 := by unfold txt; rw [mk_size]; have := hw.text_len; omega
 refine (kread_in (txt m) w1 s hsz (hO.six.below hb)).mono fun e w' ⟨hr, hb'⟩ => ?_
 have e0 : (txt m).data.toList = textB m := bytes_toList _
 rw [e0, readS_back m [] 0 (by simpa using hw)] at hr
 rcases hr with ⟨_, p, b, he, _, _, hi⟩ | ⟨h, _⟩
 ·exact ⟨p, b, he, by simpa using hi, hb.trans (hb'.mono hb.size), hb'⟩
 ·exact absurd rfl h
end
end Go.Proofs.YteomomeigbfeoaaGreatDoor
