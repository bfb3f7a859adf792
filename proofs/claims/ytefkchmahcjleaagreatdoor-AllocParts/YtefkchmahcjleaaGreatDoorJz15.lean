/-
 What Put answers and leaves: n pieces more of a lot at a place, or an error and no turn; nothing else that is old is turned.
-/
import Derived.Test.YtefkchmahcjleaaGreatDoorJz6
import Derived.Test.YtefkchmahcjleaaGreatDoorJz3
import Derived.Test.YtefkchmahcjleaaGreatDoorGenK
import Derived.Deep.RegionHeld3
set_option maxRecDepth 100000
set_option maxHeartbeats 16000000
namespace Go.Proofs.YtefkchmahcjleaaGreatDoor
open Go.RowKit Go.Lib Go.Sort
open Go.Maps (Keyed)
theorem putL_err {m : List Ln} {x : Pl} {c : ByteArray} {n : Int} (h : putE m x c n ≠ 0) : putL m x c n = m := by unfold putL; rw [if_neg h]
theorem putL_zero {m : List Ln} {x : Pl} {c : ByteArray} {n : Int} (h : putE m x c n = 0) : putL m x c n = withL m (x, c) (atL m (x, c) + n) := by unfold putL; rw [if_pos h]
theorem putE_place {m : List Ln} {x : Pl} {c : ByteArray} {n : Int} (h : placeErr x ≠ 0) : putE m x c n = placeErr x := by unfold putE; rw [if_neg h]
theorem putE_name {m : List Ln} {x : Pl} {c : ByteArray} {n : Int} (h : placeErr x = 0) (h1 : isName c.data.toList = false) : putE m x c n = 5 := by unfold putE; rw [if_pos h, h1]; rfl
theorem putE_num {m : List Ln} {x : Pl} {c : ByteArray} {n : Int} (h : placeErr x = 0) (h1 : isName c.data.toList = true) (h2 : numW n = false ∨ 1099511627776 < ofL m c + n) : putE m x c n = 2 := by
 unfold putE; rw [if_pos h, if_pos h1, if_neg]
 simp only [Bool.and_eq_true, decide_eq_true_eq]
 rintro ⟨a, b⟩
 rcases h2 with h2 | h2
 ·rw [a] at h2; cases h2
 ·omega
theorem putE_full {m : List Ln} {x : Pl} {c : ByteArray} {n : Int} (h : placeErr x = 0) (h1 : isName c.data.toList = true) (h2 : numW n = true) (h3 : ofL m c + n ≤ 1099511627776) : putE m x c n = if atL m (x, c) = 0 ∧ 200 ≤ m.length then 8 else 0 := by
 unfold putE; rw [if_pos h, if_pos h1, if_pos]
 simp [h2, h3]
abbrev boxP (w : World) (x : Pl) : World := w.alloc (.cells #[.string x.1, .int .i64 x.2.1, .int .i64 x.2.2] 42)
theorem boxP_below (w : World) (x : Pl) : Below w.heap.size w (boxP w x) := (Below.refl _ w).alloc (Nat.le_refl _) _
theorem put_place (x : Pl) (c : ByteArray) (n : Int) (w : World) (s : Nat → Addr) (p : Nat) (hz : x.1.size ≤ maxLen) (hs : Five w s) (h0 : placeErr x ≠ 0) :
  Calls Tryz.prog 109 #[.pointer (some ⟨p, 0, none⟩), agP x, .string c, .int .i64 n] w fun e w' => e = .returned (errP s (placeErr x)) ∧ Below w.heap.size w w' := by
 have hB := boxP_below w x
 have hC := pcheck_any x _ s hz (hs.two.below hB)
 rw [errP_pos s h0] at hC ⊢
 generalize s (placeErr x - 1) = ad at *
 clear hs hz h0
 obtain ⟨a, r, bb⟩ := x
 unfold agP boxP at *
 simp only at *
 have HC : Hid (Calls Tryz.prog 133 _ _ _) := hC
 have HB : Hid (Below _ _ _) := hB
 clear hC hB
 go_enter Tryz.func109, Tryz.ntmps109
 go_wp2_with (go_at_call 133; refine HC.out.mono ?_; rintro e w1 ⟨rfl, hb⟩)
 go_ret
 exact ⟨rfl, HB.out.trans (hb.mono HB.out.size)⟩
theorem put_name (x : Pl) (c : ByteArray) (n : Int) (w : World) (s : Nat → Addr) (p : Nat) (hz : x.1.size ≤ maxLen) (hz' : c.size ≤ maxLen) (hs : Five w s) (h0 : placeErr x = 0) (h1 : isName c.data.toList = false) :
  Calls Tryz.prog 109 #[.pointer (some ⟨p, 0, none⟩), agP x, .string c, .int .i64 n] w fun e w' => e = .returned (err (s 4)) ∧ Below w.heap.size w w' := by
 have hB := boxP_below w x
 have hC := pcheck_any x _ s hz (hs.two.below hB)
 rw [h0, errP_zero] at hC
 have hN : ∀ w, Calls Tryz.prog 131 #[.string c] w _ := fun w => name_any c w hz'
 rw [h1] at hN
 have hg := fun w1 (hb : Below w.heap.size w w1) => (hs.two.below hb).name
 clear hs hz hz' h0 h1
 obtain ⟨a, r, bb⟩ := x
 unfold agP boxP at *
 simp only at *
 have HC : Hid (Calls Tryz.prog 133 _ _ _) := hC
 have HB : Hid (Below _ _ _) := hB
 clear hC hB
 go_enter Tryz.func109, Tryz.ntmps109
 go_wp2_with (first
  | (go_at_call 133; refine HC.out.mono ?_; rintro e w1 ⟨rfl, hb⟩; have g := hg w1 (HB.out.trans (hb.mono HB.out.size)))
  | (go_at_call 131; refine (hN _).mono ?_; rintro e w2 ⟨rfl, rfl⟩))
 go_ret
 exact ⟨rfl, HB.out.trans (hb.mono HB.out.size)⟩
theorem put_num (x : Pl) (c : ByteArray) (n : Int) (w : World) (s : Nat → Addr) (p b : Nat) (m : List Ln) (h : IsStock w p b m) (hz : x.1.size ≤ maxLen) (hz' : c.size ≤ maxLen) (hs : Five w s) (h0 : placeErr x = 0) (h1 : isName c.data.toList = true) (h2 : numW n = false ∨ (numW n = true ∧ 1099511627776 < ofL m c + n)) :
  Calls Tryz.prog 109 #[.pointer (some ⟨p, 0, none⟩), agP x, .string c, .int .i64 n] w fun e w' => e = .returned (err (s 1)) ∧ Below w.heap.size w w' := by
 have hB := boxP_below w x
 have hC := pcheck_any x _ s hz (hs.two.below hB)
 rw [h0, errP_zero] at hC
 have hN : ∀ w, Calls Tryz.prog 131 #[.string c] w _ := fun w => name_any c w hz'
 rw [h1] at hN
 have hg := fun w1 (hb : Below w.heap.size w w1) => (hs.two.below hb).bound
 have hW := fun w => numWell_any n w
 have hO := fun w1 (hb : Below w.heap.size w w1) => of_any c w1 p b m (h.all hb)
 obtain ⟨o1, o2⟩ := h.wf.of_bound c
 clear hs hz hz' h0 h1 h
 generalize ofL m c = O at *
 obtain ⟨a, r, bb⟩ := x
 unfold agP boxP at *
 simp only at *
 have HC : Hid (Calls Tryz.prog 133 _ _ _) := hC
 have HB : Hid (Below _ _ _) := hB
 clear hC hB
 rcases h2 with h2 | ⟨h2, h3⟩
 ·rw [h2] at hW
  clear hO
  go_enter Tryz.func109, Tryz.ntmps109
  go_wp2_with (first
   | (go_at_call 133; refine HC.out.mono ?_; rintro e w1 ⟨rfl, hb⟩; have g := hg w1 (HB.out.trans (hb.mono HB.out.size)))
   | (go_at_call 131; refine (hN _).mono ?_; rintro e w2 ⟨rfl, rfl⟩)
   | (go_at_call 134; refine (hW _).mono ?_; rintro e w3 ⟨rfl, rfl⟩))
  go_ret
  exact ⟨rfl, HB.out.trans (hb.mono HB.out.size)⟩
 ·have hn := (numW_iff n).1 h2
  rw [h2] at hW
  obtain ⟨n1, n2⟩ := hn
  go_enter Tryz.func109, Tryz.ntmps109
  go_wp2_with (first
   | (go_at_call 133; refine HC.out.mono ?_; rintro e w1 ⟨rfl, hb⟩; have hb1 : Below w.heap.size w w1 := HB.out.trans (hb.mono HB.out.size))
   | (go_at_call 131; refine (hN _).mono ?_; rintro e w2 ⟨rfl, rfl⟩)
   | (go_at_call 134; refine (hW _).mono ?_; rintro e w3 ⟨rfl, rfl⟩)
   | (go_at_call 71; refine (hO _ hb1).mono ?_; rintro e w4 ⟨rfl, hb4⟩; have hb5 : Below w.heap.size w w4 := hb1.trans (hb4.mono hb1.size); have g := hg w4 hb5))
  go_ret
  exact ⟨rfl, hb5⟩
theorem keyOk_of {x : Pl} {c : ByteArray} (h0 : placeErr x = 0) (hz : x.1.size ≤ maxLen) (hz' : c.size ≤ maxLen) : KeyOk (x, c) := by
 obtain ⟨_, a1, a2, a3, a4⟩ := okP_bounds ((okP_err x).2 h0)
 obtain ⟨a, r, bb⟩ := x
 simp only at a1 a2 a3 a4
 exact ⟨hz, WalkArith.wf_i64 (show _ ≤ r ∧ r ≤ _ by omega), WalkArith.wf_i64 (show _ ≤ bb ∧ bb ≤ _ by omega), hz'⟩
theorem put_in (x : Pl) (c : ByteArray) (n : Int) (w : World) (s : Nat → Addr) (p b : Nat) (m : List Ln) (h : IsStock w p b m) (hz : x.1.size ≤ maxLen) (hz' : c.size ≤ maxLen) (hs : Five w s) (h0 : placeErr x = 0) (h1 : isName c.data.toList = true) (h2 : numW n = true) (h3 : ofL m c + n ≤ 1099511627776) :
  Calls Tryz.prog 109 #[.pointer (some ⟨p, 0, none⟩), agP x, .string c, .int .i64 n] w fun e w' => e = .returned (errP s (putE m x c n)) ∧ IsStock w' p b (putL m x c n) ∧ w.grownBy w' (some b) := by
 have hB := boxP_below w x
 have hbx : BoxAt w.heap.size x (boxP w x) := BoxAt.new w x _ _ rfl
 have hC := pcheck_any x _ s hz (hs.two.below hB)
 rw [h0, errP_zero] at hC
 have hN : ∀ w, Calls Tryz.prog 131 #[.string c] w _ := fun w => name_any c w hz'
 rw [h1] at hN
 have hW := fun w => numWell_any n w
 rw [h2] at hW
 have hO := fun w1 (hb : Below w.heap.size w w1) => of_any c w1 p b m (h.all hb)
 obtain ⟨o1, o2⟩ := h.wf.of_bound c
 obtain ⟨n1, n2⟩ := (numW_iff n).1 h2
 have hk : KeyOk (x, c) := keyOk_of h0 hz hz'
 have HE := putE_full (m := m) (n := n) h0 h1 h2 h3
 have hv0 := h.wf.at_nonneg (x, c)
 have hv1 : atL m (x, c) ≤ 1099511627776 := Int.le_trans (h.wf.at_le (x, c)) (h.wf.most _)
 have HF : Hid (∀ w4, Below w.heap.size w w4 → IsStock w4 p b m) := fun w4 hb => h.all hb
 have HV : Hid (∀ w4, Below w.heap.size w w4 → Five w4 s) := fun w4 hb => hs.below hb
 have hpb : Hid (p ≠ b) := h.ne
 have hlb : Hid (b < w.heap.size) := h.lt.2
 have HP := h.wf.put x c n
 have HK : Hid (KeyOk (x, c)) := hk
 have HA : Hid (atL m (x, c) + n ≤ 9223372036854775807) := by have := h.wf.at_le (x, c); show _ ≤ _; omega
 clear hs hz hz' h0 h1 h hk
 generalize hO' : ofL m c = O at *
 have HO' : Hid (ofL m c = O) := hO'
 clear hO'
 obtain ⟨a, r, bb⟩ := x
 unfold agP boxP at *
 simp only at *
 have HC : Hid (Calls Tryz.prog 133 _ _ _) := hC
 have HB : Hid (Below _ _ _) := hB
 have HE' : Hid (putE m (a, r, bb) c n = _) := HE
 have HP' : Hid (Wf _) := HP
 clear hC hB HE HP
 obtain ⟨v, hv⟩ : ∃ v, v = atL m ((a, r, bb), c) := ⟨_, rfl⟩
 rw [← hv] at hv0 hv1
 have Hv : Hid (v = atL m ((a, r, bb), c)) := hv
 clear hv
 go_enter Tryz.func109, Tryz.ntmps109
 go_wp2_with (first
  | (go_at_call 133; refine HC.out.mono ?_; rintro e w1 ⟨rfl, hb⟩; have hb1 : Below w.heap.size w w1 := HB.out.trans (hb.mono HB.out.size); have hbx1 := hbx.below hb)
  | (go_at_call 131; refine (hN _).mono ?_; rintro e w2 ⟨rfl, rfl⟩)
  | (go_at_call 134; refine (hW _).mono ?_; rintro e w3 ⟨rfl, rfl⟩)
  | (go_at_call 71; refine (hO _ hb1).mono ?_; rintro e w4 ⟨rfl, hb4⟩; obtain ⟨y0, y1, y2⟩ := hbx1.below hb4; simp only at y0 y1 y2; have hb5 : Below w.heap.size w w4 := hb1.trans (hb4.mono hb1.size)))
 have hbS : BoxS w4.heap.size ((a, r, bb), c) (w4.alloc (.cells #[.string a, .int .i64 r, .int .i64 bb, .string c] 139)) := BoxS.new w4 ((a, r, bb), c) _ _ rfl
 have hbW : Below w.heap.size w (w4.alloc (.cells #[.string a, .int .i64 r, .int .i64 bb, .string c] 139)) := hb5.alloc hb5.size _
 have hqb : w4.heap.size ≠ b := fun e => by have := hlb.out; have := hb5.size; omega
 clear y0 y1 y2 hb5 hb4 hb1 hb hbx1 hbx hO hN hW HB HC
 generalize w4.alloc (.cells #[.string a, .int .i64 r, .int .i64 bb, .string c] 139) = W at *
 generalize w4.heap.size = q at *
 have hSt := HF.out W hbW
 have hl : ∀ k, (Instr.lookup 136 (.map (some b)) (.agg #[.string a, .int .i64 r, .int .i64 bb, .string c]) false).run Tryz.prog (W.drewN k) = .ok (.int .i64 v) (W.drewN k) := fun k => by rw [Hv.out]; exact hSt.looks HK.out k
 obtain ⟨ln, hes⟩ : ∃ ln : Nat, ln = m.length := ⟨_, rfl⟩
 have ho : ∀ k, (Builtin.len_ #[136] 3 #[.map (some b)]).run Tryz.prog (W.drewN k) = .ok (.int .i64 ln) (W.drewN k) := fun k => by
  have := (hSt.drew k).map.len Tryz.underlying136 3
  rw [List.length_map, ← hes] at this
  exact this
 have hlen := hSt.wf.len
 have hc := hSt.cell
 have HS : Hid (IsStock W p b m) := hSt
 have HL : Hid (ln = m.length) := hes
 have hg := (HV.out W hbW).full
 have HbW : Hid (Below w.heap.size w W) := hbW
 have hl200 : ln ≤ 200 := by rw [hes]; exact hlen
 obtain ⟨x0, x1, x2, x3⟩ := hbS
 have HBS : Hid (BoxS q ((a, r, bb), c) W) := ⟨x0, x1, x2, x3⟩
 simp only at x0 x1 x2 x3
 clear hSt hbW hlen hes
 by_cases hf : v = 0 ∧ 200 ≤ ln
 ·obtain ⟨f1, f2⟩ := hf
  have e1 : (v == 0) = true := by simpa using f1
  have hd : decide (200 ≤ ln) = true := decide_eq_true f2
  have HZ : Hid (putE m (a, r, bb) c n = 8) := by
   show _ = _
   rw [HE'.out, if_pos ⟨by rw [← Hv.out]; exact f1, by rw [← HL.out]; exact f2⟩]
  clear f1
  go_quiet (fail)
  go_wp2
  go_ret
  refine ⟨by rw [HZ.out]; rfl, ?_, grown_trans (Below.grownAll HbW.out _) (grown_drewN _ _ _)⟩
  rw [putL_err (by rw [HZ.out]; decide)]
  exact HS.out.drew _
 ·have HZ : Hid (putE m (a, r, bb) c n = 0) := by
   show _ = _
   rw [HE'.out, if_neg]
   rintro ⟨f1, f2⟩
   exact hf ⟨by rw [Hv.out]; exact f1, by rw [HL.out]; exact f2⟩
  have HQ : Hid (∀ k, ∃ w3, w.grownBy w3 (some b) ∧ IsStock w3 p b (putL m (a, r, bb) c n) ∧ ∃ (st : Nat) (w2 : World), (Instr.mapEntry 136 (.map (some b)) (.agg #[.string a, .int .i64 r, .int .i64 bb, .string c])).run Tryz.prog (W.drewN (k + 1)) = .ok (.tuple #[.int .i64 v, .int .i64 st]) w2 ∧ (Instr.lookup 136 (.map (some b)) (.agg #[.string a, .int .i64 r, .int .i64 bb, .string c]) false).run Tryz.prog w2 = .ok (.int .i64 v) w2 ∧ BoxS q ((a, r, bb), c) w2 ∧ w2.cell? ⟨p, 0, none⟩ = some (.map (some b)) ∧
    (Instr.entryStore 136 (.map (some b)) (.int .i64 st) (.int .i64 (v + n))).run Tryz.prog w2 = .ok () w3) := fun k => by
   have hS : IsStock (W.drewN (k + 1)) p b m := ⟨HS.out.cell, HS.out.map, HS.out.wf⟩
   obtain ⟨st, w2, g1, g2, g3, g4⟩ := hS.entry HK.out
   rw [← Hv.out] at g1 g2
   obtain ⟨w3, g5, g6, g7⟩ := g4 (v + n)
   have hne : v + n ≠ 0 := by omega
   refine ⟨w3, grown_trans (grown_trans (Below.grownAll HbW.out _) (grown_drewN _ (k + 1) _)) g7.grown, ⟨(turned_cell (p := ⟨p, 0, none⟩) g7 hpb.out).trans hS.cell, ?_, HP'.out⟩, st, w2, g1, g2, BoxS.of_block (W := W.drewN (k + 1)) (HBS.out.of_block rfl) (turned_block g3 hqb), (turned_cell (p := ⟨p, 0, none⟩) g3 hpb.out).trans hS.cell, g5⟩
   rw [putL_zero HZ.out, ← Hv.out]
   exact g6.perm ((withL_perm hne).symm.map entN)
  have hn9 := HA.out
  rw [← Hv.out] at hn9
  by_cases f1 : v = 0
  ·have e1 : (v == 0) = true := by simpa using f1
   have f2 : ln < 200 := Nat.lt_of_not_le fun f2 => hf ⟨f1, f2⟩
   have hd : decide (200 ≤ ln) = false := decide_eq_false (by omega)
   clear hf f1
   go_quiet (fail)
   go_wp2
   obtain ⟨w3, hg3, hS3, st, w2, g1, g2, ⟨z0, z1, z2, z3⟩, g4, g5⟩ := HQ.out nq
   simp only at z0 z1 z2 z3
   go_region
   go_wp2
   go_ret
   exact ⟨by rw [HZ.out]; rfl, hS3, hg3⟩
  ·have e1 : (v == 0) = false := by simpa using f1
   clear hf f1
   go_quiet (fail)
   go_wp2
   obtain ⟨w3, hg3, hS3, st, w2, g1, g2, ⟨z0, z1, z2, z3⟩, g4, g5⟩ := HQ.out nq
   simp only at z0 z1 z2 z3
   go_region
   go_wp2
   go_ret
   exact ⟨by rw [HZ.out]; rfl, hS3, hg3⟩
theorem put_any (x : Pl) (c : ByteArray) (n : Int) (w : World) (s : Nat → Addr) (p b : Nat) (m : List Ln) (h : IsStock w p b m) (hz : x.1.size ≤ maxLen) (hz' : c.size ≤ maxLen) (hs : Five w s) :
  Calls Tryz.prog 109 #[.pointer (some ⟨p, 0, none⟩), agP x, .string c, .int .i64 n] w fun e w' => e = .returned (errP s (putE m x c n)) ∧ IsStock w' p b (putL m x c n) ∧ w.grownBy w' (some b) := by
 by_cases h0 : placeErr x = 0
 ·cases h1 : isName c.data.toList with
  | false =>
   have e := putE_name (m := m) (n := n) h0 h1
   rw [putL_err (by rw [e]; decide), e]
   exact (put_name x c n w s p hz hz' hs h0 h1).mono fun e w' ⟨he, hb⟩ => ⟨he, h.all hb, Below.grownAll hb _⟩
  | true =>
   cases h2 : numW n with
   | false =>
    have e := putE_num (m := m) (n := n) h0 h1 (Or.inl h2)
    rw [putL_err (by rw [e]; decide), e]
    exact (put_num x c n w s p b m h hz hz' hs h0 h1 (Or.inl h2)).mono fun e w' ⟨he, hb⟩ => ⟨he, h.all hb, Below.grownAll hb _⟩
   | true =>
    by_cases h3 : ofL m c + n ≤ 1099511627776
    ·exact put_in x c n w s p b m h hz hz' hs h0 h1 h2 h3
    ·have h4 : 1099511627776 < ofL m c + n := by omega
     have e := putE_num (m := m) (n := n) h0 h1 (Or.inr h4)
     rw [putL_err (by rw [e]; decide), e]
     exact (put_num x c n w s p b m h hz hz' hs h0 h1 (Or.inr ⟨h2, h4⟩)).mono fun e w' ⟨he, hb⟩ => ⟨he, h.all hb, Below.grownAll hb _⟩
 ·have e := putE_place (m := m) (c := c) (n := n) h0
  rw [putL_err (by rw [e]; exact h0), e]
  exact (put_place x c n w s p hz hs h0).mono fun e w' ⟨he, hb⟩ => ⟨he, h.all hb, Below.grownAll hb _⟩
end Go.Proofs.YtefkchmahcjleaaGreatDoor
namespace Go.Proofs.YtefkchmahcjleaaGreatDoor
open Go.RowKit Go.Lib Go.Sort Go.Shelf
abbrev boxN2 (w : World) (x y : Ln) : World := (w.alloc (.cells #[.string x.1.1, .int .i64 x.1.2.1, .int .i64 x.1.2.2, .string x.2.1, .int .i64 x.2.2] 97)).alloc (.cells #[.string y.1.1, .int .i64 y.1.2.1, .int .i64 y.1.2.2, .string y.2.1, .int .i64 y.2.2] 97)
theorem boxN2_grew (w : World) (x y : Ln) : Grew w (boxN2 w x y) := ((Grew.refl w).alloc _).alloc _
theorem boxN2_first (w : World) (x y : Ln) : LineAt (boxN2 w x y) w.heap.size 0 x := (LineAt.new w x _ _ rfl).below ((Below.refl _ _).alloc (Nat.le_refl _) _)
theorem boxN2_second (w : World) (x y : Ln) : LineAt (boxN2 w x y) (w.heap.size + 1) 0 y := LineAt.new _ y _ _ (by simp)
theorem kcompare_any (x y : Ln) (w : World) : Calls Tryz.prog 80 #[agN x, agN y] w fun e w' => e = .returned (.int .i64 (cmpN x y)) ∧ Grew w w' := by
 have hg := boxN2_grew w x y
 obtain ⟨x0, x1, x2, x3, _⟩ := boxN2_first w x y
 obtain ⟨y0, y1, y2, y3, _⟩ := boxN2_second w x y
 obtain ⟨⟨a, r, b⟩, c, n⟩ := x
 obtain ⟨⟨a', r', b'⟩, c', n'⟩ := y
 have h1 : ∀ w, Calls Tryz.prog 115 #[agP (a, r, b), agP (a', r', b')] w fun e w' => e = .returned (.int .i64 (cmpP (a, r, b) (a', r', b'))) ∧ Grew w w' := fun w => compare_any (a, r, b) (a', r', b') w
 have h2 := fun w => cmpS_any c c' w
 have HE : Hid (cmpN ((a, r, b), c, n) ((a', r', b'), c', n') = or2 (cmpP (a, r, b) (a', r', b')) (cmpZ c c')) := rfl
 unfold agP agN boxN2 at *
 simp only [Nat.zero_add] at *
 generalize cmpN ((a, r, b), c, n) ((a', r', b'), c', n') = E at *
 generalize cmpP (a, r, b) (a', r', b') = c1 at *
 generalize cmpZ c c' = c2 at *
 have h4 := fun bk cc w => or2_any bk cc c1 c2 w
 have hA : ∀ w' o, Grew w w' → Grew w (w'.alloc o) := fun w' o h => h.alloc o
 have hD : ∀ w', Grew w w' → Grew w w'.drew := fun w' h => h.drew
 go_enter Tryz.func80, Tryz.ntmps80
 go_wp2
 go_region_held3 (fun w' => Grew w w' ∧ w'.cell? ⟨w.heap.size, 0, none⟩ = some (.string a) ∧ w'.cell? ⟨w.heap.size, 1, none⟩ = some (.int .i64 r) ∧ w'.cell? ⟨w.heap.size, 2, none⟩ = some (.int .i64 b) ∧ w'.cell? ⟨w.heap.size, 3, none⟩ = some (.string c) ∧ w'.cell? ⟨w.heap.size + 1, 0, none⟩ = some (.string a') ∧ w'.cell? ⟨w.heap.size + 1, 1, none⟩ = some (.int .i64 r') ∧ w'.cell? ⟨w.heap.size + 1, 2, none⟩ = some (.int .i64 b') ∧ w'.cell? ⟨w.heap.size + 1, 3, none⟩ = some (.string c')) (go_keep)
  (first
   | (go_at_call 115; refine (h1 _).mono ?_; rintro e w1 ⟨rfl, hg1⟩; have k0 := hg1.keep x0; have k1 := hg1.keep x1; have k2 := hg1.keep x2; have k3 := hg1.keep x3; have l0 := hg1.keep y0; have l1 := hg1.keep y1; have l2 := hg1.keep y2; have l3 := hg1.keep y3; have hgw := (hD _ hg).trans hg1)
   | (go_at_call 116; refine (h2 _).mono ?_; rintro e w1 ⟨rfl, rfl⟩)
   | (go_at_call 114; refine (h4 _ _ _ (by rw [World.cell?_alloc_at _ _ _ _ rfl]; rfl) (by rw [World.cell?_alloc_at _ _ _ _ rfl]; rfl)).mono ?_; rintro e w3 ⟨rfl, rfl⟩))
 go_wp2
 go_ret
 exact ⟨by rw [HE.out]; rfl, hgw.alloc _⟩
theorem cmpLaysN (blk off size : Nat) (w : World) : CmpLays Tryz.prog 80 #[] encN 5 cmpN blk off size w := fun _ _ _ _ x y => kcompare_any x y _
theorem encN_cells (w : World) (l : Ln) (t n : Nat) (hn : n = w.heap.size) : ∀ j u, (encN l)[j]? = some u → (w.alloc (.cells #[.string l.1.1, .int .i64 l.1.2.1, .int .i64 l.1.2.2, .string l.2.1, .int .i64 l.2.2] t)).cell? ((⟨n, 0, none⟩ : Addr).add j) = some u := by
 intro j u hj
 rw [Go.WideShapes.add_plain, Nat.zero_add, World.cell?_alloc_at _ _ _ _ hn]
 simpa [encN] using hj
theorem lines_any (w : World) (p b : Nat) (m : List Ln) (h : IsStock w p b m) :
  Calls Tryz.prog 43 #[.pointer (some ⟨p, 0, none⟩)] w fun e w' => ∃ g cap, e = .returned (.slice (some ⟨g, 0, none⟩) m.length cap) ∧ w.heap.size ≤ g ∧ RowN w' g m ∧ Below w.heap.size w w' := by
 obtain ⟨i0, hi, hz0, hz1, hz2⟩ := info_parts Tryz.infoLn
 have hc := h.cell
 have hm := h.map
 have hlt := h.lt
 have HW : Hid (Wf m) := h.wf
 have h200 := h.wf.len
 have hNm : (m.map entN).length = m.length := by simp
 have eg : ∀ args w, (callFunc 80 args).run Tryz.prog w = .ok (.enter 80 args) w := enters_of Tryz.func80 (by kernel_rfl) rfl
 have hso := fun g cap (d : List Ln) w1 (hd : d.length ≤ 200) (hH : HoldsK encN 5 w1 g 0 d.toArray) (hg : g < w1.heap.size) => AnyQ.slices_SortFunc Tryz.laysSortK 5 Tryz.isAgg97 Tryz.sizeOf97 encN encN_len encN_one cmpN swoN 80 #[] g 0 cap d.toArray w1 eg (cmpLaysN g 0 d.toArray.size w1) hH hg (by simp only [List.size_toArray]; omega)
 change ∀ g cap (d : List Ln) w1, _ → _ → _ → Calls Tryz.prog 79 _ _ _ at hso
 simp only [List.size_toArray] at hso
 have HO : Hid (∀ g cap (d : List Ln) w1, _ → _ → _ → Calls Tryz.prog 79 _ _ _) := hso
 clear h eg hso
 obtain ⟨ln, hln⟩ : ∃ ln, ln = m.length := ⟨_, rfl⟩
 have HL : Hid (ln = m.length) := hln
 rw [← hln] at h200 hNm
 clear hln
 go_enter Tryz.func43, Tryz.ntmps43
 go_wp2_with (first
  | (at_len; refine wpL_len rfl _ 136 rfl 139 3 Tryz.underlying136 b _ ln hNm rfl hm ?_)
  | (at_make; refine wpList_make_own _ rfl _ _ 64 rfl w.heap.size 97 i0 _ 5 Tryz.underlying64 hi hz0 hz1 .i64 .i64 _ ln rfl rfl rfl (by rw [hz2]; omega) (by unfold maxLen; omega) (Nat.le_refl _) ?_; intro w1 hown1 hgr1; have hc1 : w1.cell? ⟨p, 0, none⟩ = some (.map (some b)) := (World.cell?_of_block (a := ⟨p, 0, none⟩) (hgr1.block p hlt.1 (by simp))).trans hc; have hm1 := hm.kept hgr1 (by simp); have hb1 : Below w.heap.size w w1 := ⟨hgr1.os, hgr1.tape, hgr1.output, hgr1.size, fun k hk => hgr1.block k hk (by simp)⟩)
  | (at_range; refine wpL_range rfl _ 136 rfl 139 3 Tryz.underlying136 b (m.map entN) rfl hm1 ?_; intro w0 hrg0 hg0 hs0))
 go_frame
 have hb0 : Below w.heap.size w w0 := hb1.trans (Below.mono ⟨hg0.os, hg0.tape, hg0.output, hg0.size, fun k hk => hg0.block k hk (by simp)⟩ hb1.size)
 have hown0 := hown1.kept hg0 (Or.inr (by simp [Value.ownBlock]))
 have hr0 : w.heap.size < w1.heap.size := (hown1.lt w.heap.size rfl).2
 clear hg0 hs0 hm hm1 hc1 hgr1 hown1 hb1 hc
 generalize w1.heap.size = r at *
 have HB : Hid (b < w.heap.size) := hlt.2
 have HR : Hid (w.heap.size < r) := hr0
 clear hr0 hlt
 go_loopw [3] (fun sl wr => ∃ d t : List Ln, (d ++ t).Perm m ∧ sl = .slice (some ⟨w.heap.size, 0, none⟩) d.length ln ∧ wr.ownsRow w.heap.size 97 5 (.slice (some ⟨w.heap.size, 0, none⟩) d.length ln) d.length (flatN d) ∧ RangeL Tryz.prog 139 wr b r (m.map entN) (t.map entN) ∧ Below w.heap.size w wr) (fun _ wr => wr.rangeLeft b r)
 case atStart => exact ⟨[], m, List.Perm.refl _, rfl, hown0, hrg0, hb0⟩
 case round =>
  obtain ⟨d, t, hp, rfl, hown, hrg, hb⟩ := hrel
  have hdl : d.length + t.length = ln := by rw [HL.out]; have := hp.length_eq; simpa using this
  go_wp2_with (at_next; refine wpK_next rfl _ rfl b r _ t rfl hrg ?_ ?_)
  ·intro ht
   subst ht
   have hdn : d.length = ln := by simpa using hdl
   have hpd : d.Perm m := by simpa using hp
   have HPD : Hid (d.Perm m) := hpd
   have hH := own_holdsN hown
   have hlt := (hown.lt w.heap.size rfl).2
   have hcall := HO.out w.heap.size ln d wr (by omega) hH hlt
   have HC : Hid (Calls Tryz.prog 79 _ _ _) := hcall
   have HH : Hid (HoldsK encN 5 wr w.heap.size 0 d.toArray) := hH
   have HD : Hid (d.length = ln) := hdn
   clear hH hcall hown hrg hp hpd hdl hdn
   go_wp2_with (go_at_call 79; refine HC.out.mono ?_; rintro e w2 ⟨rfl, d', q, os, hq, hs, rfl⟩)
   go_ret
   refine ⟨w.heap.size, ln, by rw [← HL.out]; show Ending.returned (Value.slice _ d.length ln) = _; rw [HD.out], Nat.le_refl _, rowN_holds (sorted_is HW.out.sorted HPD.out hq hs) (SWK.holds ⟨q, os, rfl⟩ hlt HH.out hq.1), hb.trans (below_sortN wr w.heap.size 0 q d' os hb.size (Nat.le_refl _))⟩
  ·intro za zr zb zc zn t' w1 hp1 hrg1 hg1 hs1 hen
   have hb1 := grown_below hb (Nat.le_of_lt HR.out) hg1
   have hown1 := hown.kept hg1 (Or.inr (by simp [Value.ownBlock]; have := HR.out; omega))
   have HP : Hid (((d ++ [((za, zr, zb), zc, zn)]) ++ t').Perm m) := by
    show _
    rw [List.append_assoc]
    exact ((hp1.symm.append_left d)).trans hp
   have HM : Hid (wr.rangeLeft b r = (t'.map entN).length + 1) := by
    show _ = _
    rw [hrg.left_eq]
    have := hp1.length_eq
    simpa using this
   have hroom : d.length + 1 ≤ ln := by have := hp1.length_eq; simp at this; omega
   have hown2 := fun o o' => (hown1.alloc o).alloc o'
   have hrg2 := fun o o' => (hrg1.kept (World.grownBy_alloc w1 o none) (by simp) (by simp)).kept (World.grownBy_alloc (w1.alloc o) o' none) (by simp) (by simp)
   have hb2 := fun o o' => (hb1.alloc hb1.size o).alloc (by have := hb1.size; simp; omega) o'
   have hne : Hid (w.heap.size ≠ b ∧ w.heap.size ≠ r) := by have := HB.out; have := HR.out; exact ⟨by omega, by omega⟩
   clear hp hp1 hrg hrg1 hg1 hb hown hown1 hb1 hdl
   go_wp2_with (at_builtin; refine wpList_append_fits _ rfl _ _ 64 rfl w.heap.size 97 i0 5 Tryz.underlying64 hi hz1 w.heap.size d.length ln (flatN d) rfl (hown2 _ _) ⟨w1.heap.size + 1, 0, none⟩ 1 1 (encN ((za, zr, zb), zc, zn)) (by simp [Act.eval]) rfl (encN_cells _ ((za, zr, zb), zc, zn) _ _ (by simp)) (encN_one _) hroom ?_; intro w3 hown3 hgr3)
   go_roundw
   case rel =>
    refine ⟨d ++ [((za, zr, zb), zc, zn)], t', HP.out, by simp, ?_, (hrg2 _ _).kept hgr3 (by simp; exact fun e => hne.out.1 e.symm) (by simp; exact fun e => hne.out.2 e.symm), ?_⟩
    ·rw [flatN_snoc]; simpa using hown3
    ·exact (hb2 _ _).trans (Below.mono (B := w.heap.size) ⟨hgr3.os, hgr3.tape, hgr3.output, hgr3.size, fun k hk => hgr3.block k (by have := (hb2 (.cells #[.string za, .int .i64 zr, .int .i64 zb, .string zc] 139) (.cells #[.string za, .int .i64 zr, .int .i64 zb, .string zc, .int .i64 zn] 97)).size; omega) (by simp; omega)⟩ (Nat.le_refl _))
   case measure =>
    show World.rangeLeft _ _ _ < _
    have e3 := ((hrg2 _ _).kept hgr3 (by simp; exact fun e => hne.out.1 e.symm) (by simp; exact fun e => hne.out.2 e.symm)).left_eq
    rw [HM.out, e3]
    exact Nat.lt_succ_self _
end Go.Proofs.YtefkchmahcjleaaGreatDoor
