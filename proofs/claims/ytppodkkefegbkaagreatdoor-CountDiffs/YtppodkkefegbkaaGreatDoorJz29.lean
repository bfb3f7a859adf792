/-
 What the program's Book.Do does, whatever the entry: the book behind it, and the error; no old block but the book's own is turned.
-/
import Derived.Test.YtppodkkefegbkaaGreatDoorJz26
import Derived.Test.YtppodkkefegbkaaGreatDoorQTurnD
import Derived.Test.YtppodkkefegbkaaGreatDoorJz11
import Derived.Test.YtppodkkefegbkaaGreatDoorJz12
import Derived.Shelf.SlSortCmp.WholeK
import Derived.Test.YtppodkkefegbkaaGreatDoorJz6
import Derived.Test.YtppodkkefegbkaaGreatDoorGenK
import Derived.Shelf.SlSortCmp.NoneTotal
import Derived.Test.YtppodkkefegbkaaGreatDoorLSorts
import Derived.Test.YtppodkkefegbkaaGreatDoorJz9
set_option maxRecDepth 100000
set_option maxHeartbeats 16000000
namespace Go.Proofs.YtppodkkefegbkaaGreatDoor
open Go.RowKit Go.Lib Go.Sort
theorem turn_any (w : World) (s : Nat → Addr) (B : Nat) (x : Bl) (b : Bk) (e : En) (h : IsBk w B x b) (hz : SzE e) (hs : Bs w s) (he : entErr e = 0) (h1 : e.1 ≠ kGoods) (h2 : e.1 ≠ kLot) :
  Calls Tryz.prog 37 #[.pointer (some ⟨x.p, 0, none⟩), agE e] w fun r w' => r = .returned (errP s (doB b e).2) ∧ IsBk w' B x (doB b e).1 ∧ Off x.all w w' := by
 rcases findI_cases nameL b.2.1 e.2.2.1.1 with ⟨h9, hno⟩ | ⟨k, l, hkL, hl, hid⟩
 ·rw [doB_none he h1 h2 (by omega)]
  exact turn_none w s B x b e h hz hs hno
 ·obtain ⟨g0, hg0, hg1⟩ := h.ok.wf.lots l (List.mem_of_getElem? hl)
  rcases findI_cases nameG b.1 l.1.2.1 with ⟨_, h8⟩ | ⟨i, g, hiG, hg, hgn⟩
  ·exact absurd hg1 (h8 g0 hg0)
  rw [doB_at he h1 h2 hkL hl hiG hg]
  by_cases hc : stkE e b.2.2 = 0
  ·by_cases hh : heldN e.1 l.2 e.2.2.2.2.2 < 0
   ·have ep : pieceE b e l g = 9 := by unfold pieceE; rw [if_pos hc, if_pos (Or.inl hh)]
    rw [ep, if_neg (by decide)]
    exact turn_neg w s B x b e h hz hs k i l g hl hid hg hgn he h1 h2 hc hh
   by_cases ho : ofL (stkL e b.2.2) e.2.2.1.1 < heldN e.1 l.2 e.2.2.2.2.2
   ·have ep : pieceE b e l g = 9 := by unfold pieceE; rw [if_pos hc, if_pos (Or.inr ho)]
    rw [ep, if_neg (by decide)]
    exact turn_short w s B x b e h hz hs k i l g hl hid hg hgn he h1 h2 hc (by omega) ho
   cases hu : okSu (addSu e.1 g.2 e.2.2.2.2.2) with
   | false =>
    have ep : pieceE b e l g = 2 := by unfold pieceE; rw [if_pos hc, if_neg (by omega), hu]; rfl
    rw [ep, if_neg (by decide)]
    exact turn_bound w s B x b e h hz hs k i l g hl hid hg hgn he h1 h2 hc (by omega) (by omega) hu
   | true =>
    have ep : pieceE b e l g = 0 := by unfold pieceE; rw [if_pos hc, if_neg (by omega), hu]; rfl
    rw [if_pos ep]
    exact turn_ok w s B x b e h hz hs k i l g hl hid hg hgn he h1 h2 hc (by omega) (by omega) hu
  ·have ep : pieceE b e l g = stkE e b.2.2 := by unfold pieceE; rw [if_neg hc]
   rw [ep, if_neg hc]
   exact turn_stk w s B x b e h hz hs k i l g hl hid hg hgn he h1 h2 hc
theorem bdo_err (w : World) (s : Nat → Addr) (B : Nat) (x : Bl) (b : Bk) (e : En) (h : IsBk w B x b) (hz : SzE e) (hs : Bs w s) (he : entErr e ≠ 0) :
  Calls Tryz.prog 11 #[.pointer (some ⟨x.p, 0, none⟩), agE e] w fun r w' => r = .returned (errP s (entErr e)) ∧ IsBk w' B x b ∧ Off x.all w w' := by
 have hE := BlkE.new w e
 have hb1 : Below w.heap.size w (w.alloc (celE e)) := (Below.refl _ w).alloc (Nat.le_refl _) _
 have hC := echeck_any e (w.alloc (celE e)) s hz (hs.below hb1).es
 rw [errP_pos s he] at hC ⊢
 generalize s (entErr e - 1) = ad at *
 obtain ⟨ps, bs, h⟩ := h
 obtain ⟨_, _, _, _, p4, _⟩ := (h.all hb1).cells
 obtain ⟨t0, t1, t2, t3, t4, t5, t6, t7, t8, t9, t10, t11, t12, t13⟩ := hE.at
 have HF : Hid (∀ W, Below w.heap.size w W → IsBk W B x b ∧ Off x.all w W) := fun W hb => ⟨⟨ps, bs, h.all hb⟩, Off.of_below hb⟩
 have HB : Hid (Below _ _ _) := hb1
 have HC : Hid (Calls Tryz.prog 34 _ _ _) := hC
 clear h hz hs he hE hb1 hC
 obtain ⟨ak, ⟨agc, agp⟩, ⟨ali, alc, alu, alk⟩, ⟨afz, afr, afb⟩, ⟨atz, atr, atb⟩, an⟩ := e
 unfold agE celE at *
 simp only at *
 go_enter Tryz.func11, Tryz.ntmps11
 go_wp2_with (go_at_call 34; refine HC.out.mono ?_; rintro r w1 ⟨rfl, hb2⟩)
 go_ret
 exact ⟨rfl, HF.out _ (HB.out.trans (hb2.mono HB.out.size))⟩
theorem bdo_goods (w : World) (s : Nat → Addr) (B : Nat) (x : Bl) (b : Bk) (e : En) (h : IsBk w B x b) (hz : SzE e) (hs : Bs w s) (he : entErr e = 0) (hk : e.1 = kGoods) :
  Calls Tryz.prog 11 #[.pointer (some ⟨x.p, 0, none⟩), agE e] w fun r w' => r = .returned (errP s (doB b e).2) ∧ IsBk w' B x (doB b e).1 ∧ Off x.all w w' := by
 have hE := BlkE.new w e
 have hb1 : Below w.heap.size w (w.alloc (celE e)) := (Below.refl _ w).alloc (Nat.le_refl _) _
 have hC := echeck_any e (w.alloc (celE e)) s hz (hs.below hb1).es
 rw [he, errP_zero] at hC
 have HD : Hid (∀ W, Below w.heap.size w W → Calls Tryz.prog 35 #[.pointer (some ⟨x.p, 0, none⟩), agG e.2.1] W fun r w' => r = .returned (errP s (doB b e).2) ∧ IsBk w' B x (doB b e).1 ∧ Off x.all w w') := fun W hb => by
  have := addGoods_any e.2.1 W s B x b (h.below hb) hz.gc (hs.below hb)
  refine this.mono fun r w' ⟨r1, r2, r3⟩ => ?_
  rw [doB_goods he hk]
  by_cases h0 : goodsE b e.2.1 = 0
  ·rw [if_pos h0] at r2 ⊢
   rw [h0] at r1
   exact ⟨r1, r2, (Off.of_below hb).trans r3⟩
  ·rw [if_neg h0] at r2 ⊢
   exact ⟨r1, r2, (Off.of_below hb).trans r3⟩
 obtain ⟨ps, bs, h⟩ := h
 obtain ⟨_, _, _, _, p4, _⟩ := (h.all hb1).cells
 have x1 : (e.1.toList == kGoods.data.toList) = true := same_wordR hk
 obtain ⟨t0, t1, t2, t3, t4, t5, t6, t7, t8, t9, t10, t11, t12, t13⟩ := hE.at
 have HE : Hid (BlkE _ _ _) := hE
 have HB : Hid (Below _ _ _) := hb1
 have HC : Hid (Calls Tryz.prog 34 _ _ _) := hC
 generalize doB b e = D at *
 clear h hz hs he hE hb1 hC hk
 obtain ⟨ak, ⟨agc, agp⟩, ⟨ali, alc, alu, alk⟩, ⟨afz, afr, afb⟩, ⟨atz, atr, atb⟩, an⟩ := e
 unfold agE celE agG at *
 simp only at *
 go_enter Tryz.func11, Tryz.ntmps11
 go_wp2_with (first
  | (go_at_call 34; refine HC.out.mono ?_; rintro r w1 ⟨rfl, hb2⟩; obtain ⟨u0, u1, u2, u3, u4, u5, u6, u7, u8, u9, u10, u11, u12, u13⟩ := (HE.out.below hb2).at; (try simp only at u0 u1 u2 u3 u4 u5 u6 u7 u8 u9 u10 u11 u12 u13); have hb3 : Hid (Below _ _ _) := HB.out.trans (hb2.mono HB.out.size); clear hb2)
  | (go_at_call 35; refine (HD.out _ hb3.out).mono ?_; rintro r w2 ⟨rfl, hr⟩))
 go_ret
 exact ⟨rfl, hr⟩
theorem bdo_lot (w : World) (s : Nat → Addr) (B : Nat) (x : Bl) (b : Bk) (e : En) (h : IsBk w B x b) (hz : SzE e) (hs : Bs w s) (he : entErr e = 0) (hk : e.1 = kLot) :
  Calls Tryz.prog 11 #[.pointer (some ⟨x.p, 0, none⟩), agE e] w fun r w' => r = .returned (errP s (doB b e).2) ∧ IsBk w' B x (doB b e).1 ∧ Off x.all w w' := by
 have hE := BlkE.new w e
 have hb1 : Below w.heap.size w (w.alloc (celE e)) := (Below.refl _ w).alloc (Nat.le_refl _) _
 have hC := echeck_any e (w.alloc (celE e)) s hz (hs.below hb1).es
 rw [he, errP_zero] at hC
 have HD : Hid (∀ W, Below w.heap.size w W → Calls Tryz.prog 36 #[.pointer (some ⟨x.p, 0, none⟩), agQ e.2.2.1] W fun r w' => r = .returned (errP s (doB b e).2) ∧ IsBk w' B x (doB b e).1 ∧ Off x.all w w') := fun W hb => by
  have := addLot_any e.2.2.1 W s B x b (h.below hb) hz.li hz.lc (hs.below hb)
  refine this.mono fun r w' ⟨r1, r2, r3⟩ => ?_
  rw [doB_lot he hk]
  by_cases h0 : lotBE b e.2.2.1 = 0
  ·rw [if_pos h0] at r2 ⊢
   rw [h0] at r1
   exact ⟨r1, r2, (Off.of_below hb).trans r3⟩
  ·rw [if_neg h0] at r2 ⊢
   exact ⟨r1, r2, (Off.of_below hb).trans r3⟩
 obtain ⟨ps, bs, h⟩ := h
 obtain ⟨_, _, _, _, p4, _⟩ := (h.all hb1).cells
 have x0 : (e.1.toList == kGoods.data.toList) = false := other_word (by rw [hk]; decide)
 have x1 : (e.1.toList == kLot.data.toList) = true := same_wordR hk
 obtain ⟨t0, t1, t2, t3, t4, t5, t6, t7, t8, t9, t10, t11, t12, t13⟩ := hE.at
 have HE : Hid (BlkE _ _ _) := hE
 have HB : Hid (Below _ _ _) := hb1
 have HC : Hid (Calls Tryz.prog 34 _ _ _) := hC
 generalize doB b e = D at *
 clear h hz hs he hE hb1 hC hk
 obtain ⟨ak, ⟨agc, agp⟩, ⟨ali, alc, alu, alk⟩, ⟨afz, afr, afb⟩, ⟨atz, atr, atb⟩, an⟩ := e
 unfold agE celE agQ at *
 simp only at *
 go_enter Tryz.func11, Tryz.ntmps11
 go_wp2_with (first
  | (go_at_call 34; refine HC.out.mono ?_; rintro r w1 ⟨rfl, hb2⟩; obtain ⟨u0, u1, u2, u3, u4, u5, u6, u7, u8, u9, u10, u11, u12, u13⟩ := (HE.out.below hb2).at; (try simp only at u0 u1 u2 u3 u4 u5 u6 u7 u8 u9 u10 u11 u12 u13); have hb3 : Hid (Below _ _ _) := HB.out.trans (hb2.mono HB.out.size); clear hb2)
  | (go_at_call 36; refine (HD.out _ hb3.out).mono ?_; rintro r w2 ⟨rfl, hr⟩))
 go_ret
 exact ⟨rfl, hr⟩
theorem bdo_turn (w : World) (s : Nat → Addr) (B : Nat) (x : Bl) (b : Bk) (e : En) (h : IsBk w B x b) (hz : SzE e) (hs : Bs w s) (he : entErr e = 0) (h1 : e.1 ≠ kGoods) (h2 : e.1 ≠ kLot) :
  Calls Tryz.prog 11 #[.pointer (some ⟨x.p, 0, none⟩), agE e] w fun r w' => r = .returned (errP s (doB b e).2) ∧ IsBk w' B x (doB b e).1 ∧ Off x.all w w' := by
 have hE := BlkE.new w e
 have hb1 : Below w.heap.size w (w.alloc (celE e)) := (Below.refl _ w).alloc (Nat.le_refl _) _
 have hC := echeck_any e (w.alloc (celE e)) s hz (hs.below hb1).es
 rw [he, errP_zero] at hC
 have HD : Hid (∀ W, Below w.heap.size w W → Calls Tryz.prog 37 #[.pointer (some ⟨x.p, 0, none⟩), agE e] W fun r w' => r = .returned (errP s (doB b e).2) ∧ IsBk w' B x (doB b e).1 ∧ Off x.all w w') := fun W hb =>
  (turn_any W s B x b e (h.below hb) hz (hs.below hb) he h1 h2).mono fun r w' ⟨r1, r2, r3⟩ => ⟨r1, r2, (Off.of_below hb).trans r3⟩
 obtain ⟨ps, bs, h⟩ := h
 obtain ⟨_, _, _, _, p4, _⟩ := (h.all hb1).cells
 have x0 : (e.1.toList == kGoods.data.toList) = false := other_word h1
 have x1 : (e.1.toList == kLot.data.toList) = false := other_word h2
 obtain ⟨t0, t1, t2, t3, t4, t5, t6, t7, t8, t9, t10, t11, t12, t13⟩ := hE.at
 have HE : Hid (BlkE _ _ _) := hE
 have HB : Hid (Below _ _ _) := hb1
 have HC : Hid (Calls Tryz.prog 34 _ _ _) := hC
 generalize doB b e = D at *
 clear h hz hs he hE hb1 hC h1 h2
 obtain ⟨ak, ⟨agc, agp⟩, ⟨ali, alc, alu, alk⟩, ⟨afz, afr, afb⟩, ⟨atz, atr, atb⟩, an⟩ := e
 unfold agE celE at *
 simp only at *
 go_enter Tryz.func11, Tryz.ntmps11
 go_wp2_with (first
  | (go_at_call 34; refine HC.out.mono ?_; rintro r w1 ⟨rfl, hb2⟩; obtain ⟨u0, u1, u2, u3, u4, u5, u6, u7, u8, u9, u10, u11, u12, u13⟩ := (HE.out.below hb2).at; (try simp only at u0 u1 u2 u3 u4 u5 u6 u7 u8 u9 u10 u11 u12 u13); have hb3 : Hid (Below _ _ _) := HB.out.trans (hb2.mono HB.out.size); clear hb2)
  | (go_at_call 37; refine (HD.out _ hb3.out).mono ?_; rintro r w2 ⟨rfl, hr⟩))
 go_ret
 exact ⟨rfl, hr⟩
theorem bdo_any (w : World) (s : Nat → Addr) (B : Nat) (x : Bl) (b : Bk) (e : En) (h : IsBk w B x b) (hz : SzE e) (hs : Bs w s) :
  Calls Tryz.prog 11 #[.pointer (some ⟨x.p, 0, none⟩), agE e] w fun r w' => r = .returned (errP s (doB b e).2) ∧ IsBk w' B x (doB b e).1 ∧ Off x.all w w' := by
 by_cases he : entErr e = 0
 ·by_cases h1 : e.1 = kGoods
  ·exact bdo_goods w s B x b e h hz hs he h1
  by_cases h2 : e.1 = kLot
  ·exact bdo_lot w s B x b e h hz hs he h2
  exact bdo_turn w s B x b e h hz hs he h1 h2
 ·rw [doB_err he]
  exact bdo_err w s B x b e h hz hs he
end Go.Proofs.YtppodkkefegbkaaGreatDoor
namespace Go.Proofs.YtppodkkefegbkaaGreatDoor
open Go.RowKit Go.Shelf Go.Lib Go.Sort
def cmpG (x y : Gs) : Int := cmpZ (nameG x) (nameG y)
def aheadG (x y : Gs) : Bool := decide (cmpG x y < 0)
theorem aheadG_lt (x y : Gs) : aheadG x y = zLt (nameG x) (nameG y) := by
 unfold aheadG cmpG
 rcases cmpZ_cases (nameG x) (nameG y) with ⟨h1, h2, h3, h4⟩ | ⟨h1, h2, h3, h4⟩ | ⟨h1, h2, h3, h4⟩
 ·rw [h4, h1]; rfl
 ·rw [h4, h1]; rfl
 ·rw [h4, h1]; rfl
theorem zLt_other {a b : ByteArray} (h : zLt a b = false) (hne : a ≠ b) : zLt b a = true := by
 rcases cmpZ_cases a b with ⟨h1, h2, h3, h4⟩ | ⟨h1, h2, h3, h4⟩ | ⟨h1, h2, h3, h4⟩
 ·rw [h1] at h; cases h
 ·exact h2
 ·exact absurd h3 hne
theorem swoG : SWO aheadG where
 irrefl x := by rw [aheadG_lt]; exact zLt_irrefl _
 trans x y z h1 h2 := by rw [aheadG_lt] at *; exact zLt_trans h1 h2
 ntrans x y z h1 h2 := by
  rw [aheadG_lt] at *
  by_cases e : nameG x = nameG y
  ·rw [e]; exact h2
  ·have h3 := zLt_other h1 e
   cases h : zLt (nameG x) (nameG z) with
   | false => rfl
   | true => rw [zLt_trans h3 h] at h2; cases h2
theorem gcompare_any (x y : Gs) (w : World) : Calls Tryz.prog 57 #[.agg #[.string x.1.1, .int .i64 x.1.2], .agg #[.string y.1.1, .int .i64 y.1.2]] w fun e w' => e = .returned (.int .i64 (cmpG x y)) ∧ ∃ q os, w' = grow (w.drewN q) os := by
 have h1 : ∀ w, Calls Tryz.prog 58 #[.string x.1.1, .string y.1.1] w fun e w' => e = .returned (.int .i64 (cmpG x y)) ∧ w' = w := fun w => cmpS_any x.1.1 y.1.1 w
 generalize cmpG x y = c1 at *
 obtain ⟨⟨a, p⟩, s⟩ := x
 obtain ⟨⟨a', p'⟩, s'⟩ := y
 simp only at *
 go_enter Tryz.func57, Tryz.ntmps57
 go_wp2_with (go_at_call 58; refine (h1 _).mono ?_; rintro e w1 ⟨rfl, hw⟩; have hw' := hw.symm; subst hw')
 go_ret
 exact ⟨rfl, ((Grew.refl w).alloc _).alloc _⟩
theorem encGd_len (x : Gs) : (encGd.enc x).length = 2 := rfl
theorem cmpLaysG (blk off size : Nat) (w : World) : CmpLays Tryz.prog 57 #[] encGd.enc 2 cmpG blk off size w := fun _ _ _ _ x y => gcompare_any x y _
theorem gs_perm_eq : ∀ {m m' : List Gs}, m.Pairwise (fun a b => zLt (nameG a) (nameG b) = true) → m'.Pairwise (fun a b => zLt (nameG a) (nameG b) = true) → m.Perm m' → m = m'
 | [], m', _, _, hp => (List.nil_perm.1 hp).symm
 | a :: m, [], _, _, hp => by have := hp.length_eq; simp at this
 | a :: m, b :: m', h, h', hp => by
  obtain ⟨h1, h2⟩ := List.pairwise_cons.1 h
  obtain ⟨h3, h4⟩ := List.pairwise_cons.1 h'
  have e : a = b := by
   rcases List.mem_cons.1 (hp.mem_iff.1 (List.mem_cons_self ..)) with e | e
   ·exact e
   ·rcases List.mem_cons.1 (hp.mem_iff.2 (List.mem_cons_self ..)) with e' | e'
    ·exact e'.symm
    ·have k1 := h3 a e
     have k2 := h1 b e'
     have := zLt_trans k1 k2
     rw [zLt_irrefl] at this
     cases this
  subst e
  rw [gs_perm_eq h2 h4 (List.Perm.cons_inv hp)]
theorem sortedG_is {m d : List Gs} {d' : Array Gs} (hw : m.Pairwise (fun a b => zLt (nameG a) (nameG b) = true)) (hp : d.Perm m) (hq : PermIn 0 d.length d.toArray d') (hs : SortedIn aheadG 0 d.length d') : d'.toList = m := by
 obtain ⟨h1, _, h3⟩ := hq
 have hsz : d'.size = d.length := by simpa using h1
 have e1 : (d'.extract 0 d.length).toList = d'.toList := by
  rw [Array.toList_extract, ← hsz]; simp [List.take_of_length_le]
 have e2 : (d.toArray.extract 0 d.length).toList = d := by simp
 rw [e1, e2] at h3
 have hpm : d'.toList.Perm m := h3.trans hp
 refine gs_perm_eq ?_ hw hpm
 have hk : (d'.toList.map nameG).Nodup := by
  refine (hpm.map nameG).nodup_iff.2 ?_
  unfold List.Nodup
  rw [List.pairwise_map]
  exact hw.imp fun h e => by rw [e, zLt_irrefl] at h; cases h
 rw [List.pairwise_iff_getElem]
 intro i j hi hj hij
 have hj' : j < d'.size := by simpa using hj
 have hi' : i < d'.size := by simpa using hi
 have := hs i j (Nat.zero_le _) hij (by omega)
 rw [getElem!_pos d' j hj', getElem!_pos d' i hi', aheadG_lt] at this
 simp only [Array.getElem_toList]
 refine zLt_other this ?_
 intro e
 unfold List.Nodup at hk
 rw [List.pairwise_map, List.pairwise_iff_getElem] at hk
 exact hk i j hi hj hij (by simpa using e.symm)
def RowG (w : World) (g : Nat) (m : List Gs) : Prop := ∀ i x, m[i]? = some x → w.cell? ⟨g, i * 2, none⟩ = some (.string x.1.1) ∧ w.cell? ⟨g, i * 2 + 1, none⟩ = some (.int .i64 x.1.2)
theorem RowG.below {w w' : World} {g : Nat} {m : List Gs} (h : RowG w g m) (hb : Below w.heap.size w w') : RowG w' g m := fun i x hi => by
 obtain ⟨h1, h2⟩ := h i x hi
 exact ⟨(hb.cell (p := ⟨g, i * 2, none⟩) (cell_lt h1)).trans h1, (hb.cell (p := ⟨g, i * 2 + 1, none⟩) (cell_lt h2)).trans h2⟩
theorem rowG_holds {w : World} {g : Nat} {d : Array Gs} {m : List Gs} (hd : d.toList = m) (h : HoldsK encGd.enc 2 w g 0 d) : RowG w g m := by
 subst hd
 intro i x hi
 have hlt : i < d.size := by have := (List.getElem?_eq_some_iff.1 hi).1; simpa using this
 have hx : d[i]! = x := by
  rw [getElem!_pos d i hlt]
  obtain ⟨_, e⟩ := List.getElem?_eq_some_iff.1 hi
  simpa using e
 have key : ∀ c, c < 2 → w.cell? ⟨g, i * 2 + c, none⟩ = some ((encGd.enc x)[c]!) := by
  intro c hc
  have := (h (i * 2 + c) (by rw [size_flatK]; omega)).1
  rw [Nat.zero_add, get_flatK encGd.enc 2 d _ (by omega), show (i * 2 + c) / 2 = i by omega, show (i * 2 + c) % 2 = c by omega, hx] at this
  exact this
 exact ⟨key 0 (by decide), key 1 (by decide)⟩
theorem flatG_array (m : List Gs) : (flatK encGd.enc 2 m.toArray).toList = encGd.flat m := by
 apply List.ext_getElem?
 intro j
 by_cases hj : j < m.length * 2
 ·have hi : j / 2 < m.length := by omega
  have h1 : m[j / 2]? = some m[j / 2] := List.getElem?_eq_getElem hi
  have h2 := encGd.flat_get (j % 2) h1 (show j % 2 < 2 by omega)
  rw [show j / 2 * encGd.k + j % 2 = j by show j / 2 * 2 + j % 2 = j; omega] at h2
  rw [h2, Array.getElem?_toList, Array.getElem?_eq_getElem (by rw [size_flatK]; simpa using hj)]
  have h3 := get_flatK encGd.enc 2 m.toArray j (by simpa using hj)
  rw [getElem!_pos _ j (by rw [size_flatK]; simpa using hj)] at h3
  rw [h3, getElem!_pos m.toArray (j / 2) (by simpa using hi), List.getElem_toArray, getElem!_pos _ (j % 2) (by rw [encGd_len]; omega), List.getElem?_eq_getElem (by rw [encGd_len]; omega)]
 ·rw [List.getElem?_eq_none (l := encGd.flat m) (by rw [encGd.flat_len]; show m.length * 2 ≤ j; omega), List.getElem?_eq_none (by rw [Array.length_toList, size_flatK]; simpa using hj)]
theorem own_holdsG {w : World} {base g cap : Nat} {m : List Gs} (h : w.ownsRow base 37 2 (.slice (some ⟨g, 0, none⟩) m.length cap) m.length (encGd.flat m)) : HoldsK encGd.enc 2 w g 0 m.toArray := by
 intro j hj
 have hj' : j < m.length * 2 := by rw [size_flatK] at hj; simpa using hj
 refine ⟨?_, ?_⟩
 ·rw [Nat.zero_add]
  have := h.cells (g := g) rfl j ((flatK encGd.enc 2 m.toArray)[j]!) (by rw [← flatG_array, Array.getElem?_toList, Array.getElem?_eq_getElem hj, getElem!_pos _ j hj])
  rw [Go.WideShapes.add_plain] at this
  simpa using this
 ·rw [Nat.zero_add]; exact h.frozenAt j
theorem values_any (b : Nat) (w : World) : Calls Tryz.prog 56 #[.map (some b)] w fun e w' => e = .returned (.func (.func 86) #[] #[.pointer (some ⟨w.heap.size, 0, none⟩)]) ∧ w' = w.alloc (.cells #[.map (some b)] 87) := by
 go_enter Tryz.func56, Tryz.ntmps56
 go_wp2
 go_ret
 exact ⟨rfl, rfl⟩
theorem collectG (Bm b : Nat) (m : List Gs) (w : World) (h30 : m.length ≤ 1000) (hB : Bm < w.heap.size) (hc : w.cell? ⟨Bm, 0, none⟩ = some (.map (some b))) (hmap : MapL Tryz.prog 9 w b (m.map entG)) :
  Calls Tryz.prog 84 #[.func (.func 86) #[] #[.pointer (some ⟨Bm, 0, none⟩)]] w fun e w' => ∃ v xs, e = .returned v ∧ xs.Perm m ∧ w'.ownsRow w.heap.size 37 2 v xs.length (encGd.flat xs) ∧ (v = .slice none 0 0 ↔ xs = []) ∧ Below w.heap.size w w' := by
 have HA : Hid (Calls Tryz.prog 111 _ _ _) := appendSeqG Bm b m w h30 hB hc hmap
 clear hmap hc hB
 go_enter Tryz.func84, Tryz.ntmps84
 go_wp2_with (go_at_call 111; refine HA.out.mono ?_; rintro e w1 ⟨v, xs, rfl, h1, h2, h3, h4⟩)
 go_ret
 exact ⟨v, xs, rfl, h1, h2, h3, h4⟩
def GoodsAt (w : World) (B : Nat) (v : Value) (m : List Gs) : Prop := (v = .slice none 0 0 ∧ m = []) ∨ ∃ g cap, v = .slice (some ⟨g, 0, none⟩) m.length cap ∧ B ≤ g ∧ g < w.heap.size ∧ RowG w g m
theorem below_sortG {B : Nat} (w : World) (blk off n : Nat) (d : Array Gs) (os : Array Obj) (hB : B ≤ w.heap.size) (hb : B ≤ blk) : Below B w (sortWorldK encGd.enc 2 w blk off n d os) := by
 refine ⟨rfl, rfl, rfl, ?_, fun k hk => ?_⟩
 ·unfold sortWorldK; rw [size_grow, size_putRowK]; simp
 ·unfold sortWorldK
  rw [heap_grow_old _ _ (by rw [size_putRowK]; simp; omega)]
  show (w.heap.modify blk _)[k]? = _
  rw [Array.getElem?_modify, if_neg (by omega)]
theorem sortedFuncG (Bm b : Nat) (m : List Gs) (w : World) (h30 : m.length ≤ 30) (hs : m.Pairwise (fun a b => zLt (nameG a) (nameG b) = true)) (hB : Bm < w.heap.size) (hc : w.cell? ⟨Bm, 0, none⟩ = some (.map (some b))) (hmap : MapL Tryz.prog 9 w b (m.map entG)) :
  Calls Tryz.prog 55 #[.func (.func 86) #[] #[.pointer (some ⟨Bm, 0, none⟩)], .func (.func 57) #[] #[]] w fun e w' => ∃ v, e = .returned v ∧ GoodsAt w' w.heap.size v m ∧ Below w.heap.size w w' := by
 have HC : Hid (Calls Tryz.prog 84 _ _ _) := collectG Bm b m w (by omega) hB hc hmap
 have eg : ∀ args w, (callFunc 57 args).run Tryz.prog w = .ok (.enter 57 args) w := enters_of Tryz.func57 (by kernel_rfl) rfl
 have HN : Hid (∀ w1, Calls Tryz.prog 85 #[.slice none 0 0, .func (.func 57) #[] #[]] w1 _) := fun w1 => AnyF.slices_SortFunc_none Tryz.laysSortG none 0 (.func (.func 57) #[] #[]) w1
 have hso := fun g cap (d : List Gs) w1 (hd : d.length ≤ 30) (hH : HoldsK encGd.enc 2 w1 g 0 d.toArray) (hg : g < w1.heap.size) => AnyQ.slices_SortFunc Tryz.laysSortG 2 Tryz.isAgg37 Tryz.sizeOf37 encGd.enc encGd_len encGd.one cmpG swoG 57 #[] g 0 cap d.toArray w1 eg (cmpLaysG g 0 d.toArray.size w1) hH hg (by simp only [List.size_toArray]; omega)
 change ∀ g cap (d : List Gs) w1, _ → _ → _ → Calls Tryz.prog 85 _ _ _ at hso
 simp only [List.size_toArray] at hso
 have HO : Hid (∀ g cap (d : List Gs) w1, _ → _ → _ → Calls Tryz.prog 85 _ _ _) := hso
 have HS : Hid (m.Pairwise (fun a b => zLt (nameG a) (nameG b) = true)) := hs
 have H30 : Hid (m.length ≤ 30) := h30
 clear eg hso hmap hc hB hs h30
 go_enter Tryz.func55, Tryz.ntmps55
 go_wp2_with (first
  | (go_at_call 84; refine HC.out.mono ?_; rintro e w1 ⟨v, xs, rfl, h1, h2, h3, h4⟩))
 rcases h2.2 with ⟨hv, h0⟩ | ⟨g, cap, cur, hv, hgB, hgb, _⟩
 ·subst hv
  have hx := h3.1 rfl
  subst hx
  have hm : m = [] := List.nil_perm.1 h1
  have HM : Hid (m = []) := hm
  clear h1 h2 h3 h0 hm
  go_wp2_with (go_at_call 85; refine (HN.out _).mono ?_; rintro e w2 ⟨rfl, hw⟩; have hw' := hw.symm; subst hw')
  go_ret
  exact ⟨_, rfl, Or.inl ⟨rfl, HM.out⟩, h4⟩
 ·subst hv
  have hH := own_holdsG h2
  have hlt : g < w1.heap.size := (Array.getElem?_eq_some_iff.1 hgb).1
  have hl : xs.length ≤ 30 := by have := h1.length_eq; have := H30.out; omega
  have hln : xs.length = m.length := h1.length_eq
  have HCc : Hid (Calls Tryz.prog 85 _ _ _) := HO.out g cap xs w1 hl hH hlt
  have HH : Hid (HoldsK encGd.enc 2 w1 g 0 xs.toArray) := hH
  have HP : Hid (xs.Perm m) := h1
  have HG : Hid (w.heap.size ≤ g ∧ g < w1.heap.size ∧ xs.length = m.length) := ⟨hgB, hlt, hln⟩
  clear h1 h2 h3 hH hgB hgb hlt hl hln
  go_wp2_with (go_at_call 85; refine HCc.out.mono ?_; rintro e w2 ⟨rfl, d', q, os, hq, hs, rfl⟩)
  go_ret
  obtain ⟨k1, k2, k3⟩ := HG.out
  have hb9 := below_sortG (B := w.heap.size) w1 g 0 q d' os h4.size k1
  refine ⟨_, rfl, Or.inr ⟨g, cap, by rw [← k3]; rfl, k1, Nat.lt_of_lt_of_le k2 hb9.size, rowG_holds (sortedG_is HS.out HP.out hq hs) (SWK.holds ⟨q, os, rfl⟩ k2 HH.out hq.1)⟩, h4.trans hb9⟩
theorem bgoods_any (w : World) (B : Nat) (x : Bl) (b : Bk) (h : IsBk w B x b) :
  Calls Tryz.prog 25 #[.pointer (some ⟨x.p, 0, none⟩)] w fun e w' => ∃ v, e = .returned v ∧ GoodsAt w' w.heap.size v b.1 ∧ Below w.heap.size w w' := by
 have hW := whole_any w B x b h
 obtain ⟨ps, bs, h⟩ := h
 obtain ⟨p0, _⟩ := h.cells
 have hb1 : Below w.heap.size w (w.alloc (.cells #[.map (some x.g)] 87)) := (Below.refl _ w).alloc (Nat.le_refl _) _
 have n1 := heap_alloc_new w (.cells #[.map (some x.g)] 87)
 have HS : Hid (Calls Tryz.prog 55 _ _ _) := sortedFuncG w.heap.size x.g b.1 (w.alloc (.cells #[.map (some x.g)] 87)) h.ok.wf.gl h.ok.gs (by simp) (by rw [cell_of_heap n1]; rfl) (h.all hb1).G
 have HV : Hid (Calls Tryz.prog 56 _ _ _) := values_any x.g w
 have HW : Hid (Calls Tryz.prog 38 _ _ _) := hW
 have HB : Hid (Below _ _ _) := hb1
 clear h hW hb1 n1
 go_enter Tryz.func25, Tryz.ntmps25
 go_wp2_with (first
  | (go_at_call 38; refine HW.out.mono ?_; rintro e w1 ⟨rfl, hw⟩; have hw' := hw.symm; subst hw')
  | (go_at_call 56; refine HV.out.mono ?_; rintro e w2 ⟨rfl, rfl⟩)
  | (go_at_call 55; refine HS.out.mono ?_; rintro e w3 ⟨v, rfl, hg, hb⟩))
 go_ret
 refine ⟨v, rfl, ?_, HB.out.trans (hb.mono HB.out.size)⟩
 rcases hg with hg | ⟨g, cap, h1, h2, h3, h4⟩
 ·exact Or.inl hg
 ·exact Or.inr ⟨g, cap, h1, Nat.le_trans HB.out.size h2, h3, h4⟩
end Go.Proofs.YtppodkkefegbkaaGreatDoor
namespace Go.Proofs.YtppodkkefegbkaaGreatDoor
open Go.RowKit Go.Lib Go.Sort
section
variable {P : Program} {k : TypeId} {w : World} {ops : Array Oper} {rest : List Oper} {o : Oper} {a : Act} {Q : Exit → Act → World → Prop}
end
end Go.Proofs.YtppodkkefegbkaaGreatDoor
namespace Go.Proofs.YtppodkkefegbkaaGreatDoor
open Go.RowKit Go.Lib Go.Sort Go.Shelf
end Go.Proofs.YtppodkkefegbkaaGreatDoor
namespace Go.Proofs.YtppodkkefegbkaaGreatDoor
open Go.RowKit Go.Lib Go.Sort
theorem IsBk.sizeG {w : World} {B : Nat} {x : Bl} {b : Bk} (h : IsBk w B x b) {g : Gs} (hg : g ∈ b.1) : g.1.1.size ≤ maxLen := by
 obtain ⟨ps, bs, h⟩ := h
 obtain ⟨kl, hk⟩ := h.G.keys _ (List.mem_map.2 ⟨g, hg, rfl⟩)
 obtain ⟨s, e, _, hs⟩ := WideMaps.string_of_keyOf Tryz.underlying9 hk
 cases e
 exact hs
end Go.Proofs.YtppodkkefegbkaaGreatDoor
