/-
 What the program's Book.Do does, whatever the entry: the book behind it, and the error; no old block but the book's own is turned.
-/
import Derived.Test.YtppodkkefegbkaaGreatDoorJz33
import Derived.Test.YtppodkkefegbkaaGreatDoorQTurnD
import Derived.Test.YtppodkkefegbkaaGreatDoorJz21
import Derived.Test.YtppodkkefegbkaaGreatDoorJz14
set_option maxRecDepth 100000
set_option maxHeartbeats 16000000
namespace Go.Proofs.YtppodkkefegbkaaGreatDoor
open Go.RowKit Go.Lib Go.Sort
theorem turn_any (w : World) (s : Nat → Addr) (B : Nat) (x : Bl) (b : Bk) (e : En) (h : IsBk w B x b) (hz : SzE e) (hs : Bs w s) (he : entErr e = 0) (h1 : e.1 ≠ kGoods) (h2 : e.1 ≠ kLot) :
  Calls Tryz.prog 37 #[.pointer (some ⟨x.p, 0, none⟩), agE e] w fun r w' => r = .returned (errP s (doB b e).2) ∧ IsBk w' B x (doB b e).1 ∧ Off x.all w w' := by
 rcases findI_cases nameL b.2.1 e.2.2.1.1 with ⟨h9, hno⟩ | ⟨k, l, hkL, hl, hid⟩
 ·rw [doB_none he h1 h2 (by omega)]
  exact turn_none w s B x b e h hz hs hno
 ·obtain ⟨g0, hg0, hg1⟩ := h.ok.wf.lots l (List.mem_of_getElem? hl)
  rcases findI_cases nameG b.1 l.1.2.1 with ⟨_, h8⟩ | ⟨i, g, hiG, hg, hgn⟩
  ·exact absurd hg1 (h8 g0 hg0)
  rw [doB_at he h1 h2 hkL hl hiG hg]
  by_cases hc : stkE e b.2.2 = 0
  ·by_cases hh : heldN e.1 l.2 e.2.2.2.2.2 < 0
   ·have ep : pieceE b e l g = 9 := by unfold pieceE; rw [if_pos hc, if_pos (Or.inl hh)]
    rw [ep, if_neg (by decide)]
    exact turn_neg w s B x b e h hz hs k i l g hl hid hg hgn he h1 h2 hc hh
   by_cases ho : ofL (stkL e b.2.2) e.2.2.1.1 < heldN e.1 l.2 e.2.2.2.2.2
   ·have ep : pieceE b e l g = 9 := by unfold pieceE; rw [if_pos hc, if_pos (Or.inr ho)]
    rw [ep, if_neg (by decide)]
    exact turn_short w s B x b e h hz hs k i l g hl hid hg hgn he h1 h2 hc (by omega) ho
   cases hu : okSu (addSu e.1 g.2 e.2.2.2.2.2) with
   | false =>
    have ep : pieceE b e l g = 2 := by unfold pieceE; rw [if_pos hc, if_neg (by omega), hu]; rfl
    rw [ep, if_neg (by decide)]
    exact turn_bound w s B x b e h hz hs k i l g hl hid hg hgn he h1 h2 hc (by omega) (by omega) hu
   | true =>
    have ep : pieceE b e l g = 0 := by unfold pieceE; rw [if_pos hc, if_neg (by omega), hu]; rfl
    rw [if_pos ep]
    exact turn_ok w s B x b e h hz hs k i l g hl hid hg hgn he h1 h2 hc (by omega) (by omega) hu
  ·have ep : pieceE b e l g = stkE e b.2.2 := by unfold pieceE; rw [if_neg hc]
   rw [ep, if_neg hc]
   exact turn_stk w s B x b e h hz hs k i l g hl hid hg hgn he h1 h2 hc
theorem bdo_err (w : World) (s : Nat → Addr) (B : Nat) (x : Bl) (b : Bk) (e : En) (h : IsBk w B x b) (hz : SzE e) (hs : Bs w s) (he : entErr e ≠ 0) :
  Calls Tryz.prog 11 #[.pointer (some ⟨x.p, 0, none⟩), agE e] w fun r w' => r = .returned (errP s (entErr e)) ∧ IsBk w' B x b ∧ Off x.all w w' := by
 have hE := BlkE.new w e
 have hb1 : Below w.heap.size w (w.alloc (celE e)) := (Below.refl _ w).alloc (Nat.le_refl _) _
 have hC := echeck_any e (w.alloc (celE e)) s hz (hs.below hb1).es
 rw [errP_pos s he] at hC ⊢
 generalize s (entErr e - 1) = ad at *
 obtain ⟨ps, bs, h⟩ := h
 obtain ⟨_, _, _, _, p4, _⟩ := (h.all hb1).cells
 obtain ⟨t0, t1, t2, t3, t4, t5, t6, t7, t8, t9, t10, t11, t12, t13⟩ := hE.at
 have HF : Hid (∀ W, Below w.heap.size w W → IsBk W B x b ∧ Off x.all w W) := fun W hb => ⟨⟨ps, bs, h.all hb⟩, Off.of_below hb⟩
 have HB : Hid (Below _ _ _) := hb1
 have HC : Hid (Calls Tryz.prog 34 _ _ _) := hC
 clear h hz hs he hE hb1 hC
 obtain ⟨ak, ⟨agc, agp⟩, ⟨ali, alc, alu, alk⟩, ⟨afz, afr, afb⟩, ⟨atz, atr, atb⟩, an⟩ := e
 unfold agE celE at *
 simp only at *
 go_enter Tryz.func11, Tryz.ntmps11
 go_wp2_with (go_at_call 34; refine HC.out.mono ?_; rintro r w1 ⟨rfl, hb2⟩)
 go_ret
 exact ⟨rfl, HF.out _ (HB.out.trans (hb2.mono HB.out.size))⟩
theorem bdo_goods (w : World) (s : Nat → Addr) (B : Nat) (x : Bl) (b : Bk) (e : En) (h : IsBk w B x b) (hz : SzE e) (hs : Bs w s) (he : entErr e = 0) (hk : e.1 = kGoods) :
  Calls Tryz.prog 11 #[.pointer (some ⟨x.p, 0, none⟩), agE e] w fun r w' => r = .returned (errP s (doB b e).2) ∧ IsBk w' B x (doB b e).1 ∧ Off x.all w w' := by
 have hE := BlkE.new w e
 have hb1 : Below w.heap.size w (w.alloc (celE e)) := (Below.refl _ w).alloc (Nat.le_refl _) _
 have hC := echeck_any e (w.alloc (celE e)) s hz (hs.below hb1).es
 rw [he, errP_zero] at hC
 have HD : Hid (∀ W, Below w.heap.size w W → Calls Tryz.prog 35 #[.pointer (some ⟨x.p, 0, none⟩), agG e.2.1] W fun r w' => r = .returned (errP s (doB b e).2) ∧ IsBk w' B x (doB b e).1 ∧ Off x.all w w') := fun W hb => by
  have := addGoods_any e.2.1 W s B x b (h.below hb) hz.gc (hs.below hb)
  refine this.mono fun r w' ⟨r1, r2, r3⟩ => ?_
  rw [doB_goods he hk]
  by_cases h0 : goodsE b e.2.1 = 0
  ·rw [if_pos h0] at r2 ⊢
   rw [h0] at r1
   exact ⟨r1, r2, (Off.of_below hb).trans r3⟩
  ·rw [if_neg h0] at r2 ⊢
   exact ⟨r1, r2, (Off.of_below hb).trans r3⟩
 obtain ⟨ps, bs, h⟩ := h
 obtain ⟨_, _, _, _, p4, _⟩ := (h.all hb1).cells
 have x1 : (e.1.toList == kGoods.data.toList) = true := same_wordR hk
 obtain ⟨t0, t1, t2, t3, t4, t5, t6, t7, t8, t9, t10, t11, t12, t13⟩ := hE.at
 have HE : Hid (BlkE _ _ _) := hE
 have HB : Hid (Below _ _ _) := hb1
 have HC : Hid (Calls Tryz.prog 34 _ _ _) := hC
 generalize doB b e = D at *
 clear h hz hs he hE hb1 hC hk
 obtain ⟨ak, ⟨agc, agp⟩, ⟨ali, alc, alu, alk⟩, ⟨afz, afr, afb⟩, ⟨atz, atr, atb⟩, an⟩ := e
 unfold agE celE agG at *
 simp only at *
 go_enter Tryz.func11, Tryz.ntmps11
 go_wp2_with (first
  | (go_at_call 34; refine HC.out.mono ?_; rintro r w1 ⟨rfl, hb2⟩; obtain ⟨u0, u1, u2, u3, u4, u5, u6, u7, u8, u9, u10, u11, u12, u13⟩ := (HE.out.below hb2).at; (try simp only at u0 u1 u2 u3 u4 u5 u6 u7 u8 u9 u10 u11 u12 u13); have hb3 : Hid (Below _ _ _) := HB.out.trans (hb2.mono HB.out.size); clear hb2)
  | (go_at_call 35; refine (HD.out _ hb3.out).mono ?_; rintro r w2 ⟨rfl, hr⟩))
 go_ret
 exact ⟨rfl, hr⟩
theorem bdo_lot (w : World) (s : Nat → Addr) (B : Nat) (x : Bl) (b : Bk) (e : En) (h : IsBk w B x b) (hz : SzE e) (hs : Bs w s) (he : entErr e = 0) (hk : e.1 = kLot) :
  Calls Tryz.prog 11 #[.pointer (some ⟨x.p, 0, none⟩), agE e] w fun r w' => r = .returned (errP s (doB b e).2) ∧ IsBk w' B x (doB b e).1 ∧ Off x.all w w' := by
 have hE := BlkE.new w e
 have hb1 : Below w.heap.size w (w.alloc (celE e)) := (Below.refl _ w).alloc (Nat.le_refl _) _
 have hC := echeck_any e (w.alloc (celE e)) s hz (hs.below hb1).es
 rw [he, errP_zero] at hC
 have HD : Hid (∀ W, Below w.heap.size w W → Calls Tryz.prog 36 #[.pointer (some ⟨x.p, 0, none⟩), agQ e.2.2.1] W fun r w' => r = .returned (errP s (doB b e).2) ∧ IsBk w' B x (doB b e).1 ∧ Off x.all w w') := fun W hb => by
  have := addLot_any e.2.2.1 W s B x b (h.below hb) hz.li hz.lc (hs.below hb)
  refine this.mono fun r w' ⟨r1, r2, r3⟩ => ?_
  rw [doB_lot he hk]
  by_cases h0 : lotBE b e.2.2.1 = 0
  ·rw [if_pos h0] at r2 ⊢
   rw [h0] at r1
   exact ⟨r1, r2, (Off.of_below hb).trans r3⟩
  ·rw [if_neg h0] at r2 ⊢
   exact ⟨r1, r2, (Off.of_below hb).trans r3⟩
 obtain ⟨ps, bs, h⟩ := h
 obtain ⟨_, _, _, _, p4, _⟩ := (h.all hb1).cells
 have x0 : (e.1.toList == kGoods.data.toList) = false := other_word (by rw [hk]; decide)
 have x1 : (e.1.toList == kLot.data.toList) = true := same_wordR hk
 obtain ⟨t0, t1, t2, t3, t4, t5, t6, t7, t8, t9, t10, t11, t12, t13⟩ := hE.at
 have HE : Hid (BlkE _ _ _) := hE
 have HB : Hid (Below _ _ _) := hb1
 have HC : Hid (Calls Tryz.prog 34 _ _ _) := hC
 generalize doB b e = D at *
 clear h hz hs he hE hb1 hC hk
 obtain ⟨ak, ⟨agc, agp⟩, ⟨ali, alc, alu, alk⟩, ⟨afz, afr, afb⟩, ⟨atz, atr, atb⟩, an⟩ := e
 unfold agE celE agQ at *
 simp only at *
 go_enter Tryz.func11, Tryz.ntmps11
 go_wp2_with (first
  | (go_at_call 34; refine HC.out.mono ?_; rintro r w1 ⟨rfl, hb2⟩; obtain ⟨u0, u1, u2, u3, u4, u5, u6, u7, u8, u9, u10, u11, u12, u13⟩ := (HE.out.below hb2).at; (try simp only at u0 u1 u2 u3 u4 u5 u6 u7 u8 u9 u10 u11 u12 u13); have hb3 : Hid (Below _ _ _) := HB.out.trans (hb2.mono HB.out.size); clear hb2)
  | (go_at_call 36; refine (HD.out _ hb3.out).mono ?_; rintro r w2 ⟨rfl, hr⟩))
 go_ret
 exact ⟨rfl, hr⟩
theorem bdo_turn (w : World) (s : Nat → Addr) (B : Nat) (x : Bl) (b : Bk) (e : En) (h : IsBk w B x b) (hz : SzE e) (hs : Bs w s) (he : entErr e = 0) (h1 : e.1 ≠ kGoods) (h2 : e.1 ≠ kLot) :
  Calls Tryz.prog 11 #[.pointer (some ⟨x.p, 0, none⟩), agE e] w fun r w' => r = .returned (errP s (doB b e).2) ∧ IsBk w' B x (doB b e).1 ∧ Off x.all w w' := by
 have hE := BlkE.new w e
 have hb1 : Below w.heap.size w (w.alloc (celE e)) := (Below.refl _ w).alloc (Nat.le_refl _) _
 have hC := echeck_any e (w.alloc (celE e)) s hz (hs.below hb1).es
 rw [he, errP_zero] at hC
 have HD : Hid (∀ W, Below w.heap.size w W → Calls Tryz.prog 37 #[.pointer (some ⟨x.p, 0, none⟩), agE e] W fun r w' => r = .returned (errP s (doB b e).2) ∧ IsBk w' B x (doB b e).1 ∧ Off x.all w w') := fun W hb =>
  (turn_any W s B x b e (h.below hb) hz (hs.below hb) he h1 h2).mono fun r w' ⟨r1, r2, r3⟩ => ⟨r1, r2, (Off.of_below hb).trans r3⟩
 obtain ⟨ps, bs, h⟩ := h
 obtain ⟨_, _, _, _, p4, _⟩ := (h.all hb1).cells
 have x0 : (e.1.toList == kGoods.data.toList) = false := other_word h1
 have x1 : (e.1.toList == kLot.data.toList) = false := other_word h2
 obtain ⟨t0, t1, t2, t3, t4, t5, t6, t7, t8, t9, t10, t11, t12, t13⟩ := hE.at
 have HE : Hid (BlkE _ _ _) := hE
 have HB : Hid (Below _ _ _) := hb1
 have HC : Hid (Calls Tryz.prog 34 _ _ _) := hC
 generalize doB b e = D at *
 clear h hz hs he hE hb1 hC h1 h2
 obtain ⟨ak, ⟨agc, agp⟩, ⟨ali, alc, alu, alk⟩, ⟨afz, afr, afb⟩, ⟨atz, atr, atb⟩, an⟩ := e
 unfold agE celE at *
 simp only at *
 go_enter Tryz.func11, Tryz.ntmps11
 go_wp2_with (first
  | (go_at_call 34; refine HC.out.mono ?_; rintro r w1 ⟨rfl, hb2⟩; obtain ⟨u0, u1, u2, u3, u4, u5, u6, u7, u8, u9, u10, u11, u12, u13⟩ := (HE.out.below hb2).at; (try simp only at u0 u1 u2 u3 u4 u5 u6 u7 u8 u9 u10 u11 u12 u13); have hb3 : Hid (Below _ _ _) := HB.out.trans (hb2.mono HB.out.size); clear hb2)
  | (go_at_call 37; refine (HD.out _ hb3.out).mono ?_; rintro r w2 ⟨rfl, hr⟩))
 go_ret
 exact ⟨rfl, hr⟩
theorem bdo_any (w : World) (s : Nat → Addr) (B : Nat) (x : Bl) (b : Bk) (e : En) (h : IsBk w B x b) (hz : SzE e) (hs : Bs w s) :
  Calls Tryz.prog 11 #[.pointer (some ⟨x.p, 0, none⟩), agE e] w fun r w' => r = .returned (errP s (doB b e).2) ∧ IsBk w' B x (doB b e).1 ∧ Off x.all w w' := by
 by_cases he : entErr e = 0
 ·by_cases h1 : e.1 = kGoods
  ·exact bdo_goods w s B x b e h hz hs he h1
  by_cases h2 : e.1 = kLot
  ·exact bdo_lot w s B x b e h hz hs he h2
  exact bdo_turn w s B x b e h hz hs he h1 h2
 ·rw [doB_err he]
  exact bdo_err w s B x b e h hz hs he
end Go.Proofs.YtppodkkefegbkaaGreatDoor
