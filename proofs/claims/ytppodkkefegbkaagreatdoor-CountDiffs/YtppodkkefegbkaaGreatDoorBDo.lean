/-
 What the reference's Book.Do does, whatever the entry: the book behind it, and the number of its error; nothing below the book's own memory is turned.
-/
import Derived.Test.YtppodkkefegbkaaGreatDoorJz25
import Derived.Test.YtppodkkefegbkaaGreatDoorBDp1
import Derived.Test.YtppodkkefegbkaaGreatDoorBDp2
import Derived.Test.YtppodkkefegbkaaGreatDoorBDp3
import Derived.Test.YtppodkkefegbkaaGreatDoorBDp4
import Derived.Test.YtppodkkefegbkaaGreatDoorBDp5
import Derived.Test.YtppodkkefegbkaaGreatDoorBDp6
import Derived.Test.YtppodkkefegbkaaGreatDoorJz9
set_option maxRecDepth 100000
set_option maxHeartbeats 16000000
namespace Go.Proofs.YtppodkkefegbkaaGreatDoor
open Go.RowKit Go.Lib Go.Sort
theorem RefB.baseLe {w : World} {B q : Nat} {b : Bk} (h : RefB w B q b) : B ≤ w.heap.size := by
 obtain ⟨_, _, _, h9, _, _, _, h8⟩ := h
 exact Nat.le_trans h8 (Nat.le_of_lt (Array.getElem?_eq_some_iff.1 h9).1)
theorem calls_base {f : Nat} {args : Array Value} {w : World} {B q : Nat} {b : Bk} {c : Int} (hB : B ≤ w.heap.size) (h : Calls Tryz.prog f args w fun r w' => r = .returned (.int .i64 c) ∧ RefB w' B q b ∧ Below w.heap.size w w') : Calls Tryz.prog f args w fun r w' => r = .returned (.int .i64 c) ∧ RefB w' B q b ∧ Turn B w w' :=
 h.mono fun _ _ ⟨h1, h2, h3⟩ => ⟨h1, h2, Turn.of h3 hB⟩
theorem rdo_goods (w : World) (B q : Nat) (b : Bk) (e : En) (h : RefB w B q b) (hz : SzE e) (hw : WfB b) (he : entErr e = 0) (hk : e.1 = kGoods) :
  Calls Tryz.prog 29 #[.pointer (some ⟨q, 0, none⟩), agE e] w fun r w' => r = .returned (.int .i64 (doB b e).2) ∧ RefB w' B q (doB b e).1 ∧ Turn B w w' := by
 rw [doB_goods he hk]
 by_cases h0 : 0 ≤ findI nameG b.1 e.2.1.1
 ·have e0 : goodsE b e.2.1 = 7 := by unfold goodsE; rw [if_pos h0]
  rw [if_neg (by rw [e0]; decide), e0]
  exact calls_base h.baseLe (do_goods_exist w B q b e h hz hw he hk h0)
 ·by_cases h1 : 30 ≤ b.1.length
  ·have e0 : goodsE b e.2.1 = 8 := by unfold goodsE; rw [if_neg h0, if_pos h1]
   rw [if_neg (by rw [e0]; decide), e0]
   exact calls_base h.baseLe (do_goods_full w B q b e h hz hw he hk (by omega) h1)
  ·have e0 : goodsE b e.2.1 = 0 := by unfold goodsE; rw [if_neg h0, if_neg h1]
   rw [if_pos e0]
   rcases h.casesG with hc | hc
   ·exact do_goods_in w B q b e h hz hw he hk (by omega) (by omega) hc
   ·exact do_goods_nil w B q b e h hz hw he hk (by omega) (by omega) hc
theorem rdo_lot (w : World) (B q : Nat) (b : Bk) (e : En) (h : RefB w B q b) (hz : SzE e) (hw : WfB b) (he : entErr e = 0) (hk : e.1 = kLot) :
  Calls Tryz.prog 29 #[.pointer (some ⟨q, 0, none⟩), agE e] w fun r w' => r = .returned (.int .i64 (doB b e).2) ∧ RefB w' B q (doB b e).1 ∧ Turn B w w' := by
 rw [doB_lot he hk]
 by_cases h0 : 0 ≤ findI nameL b.2.1 e.2.2.1.1
 ·have e0 : lotBE b e.2.2.1 = 7 := by unfold lotBE; rw [if_pos h0]
  rw [if_neg (by rw [e0]; decide), e0]
  exact calls_base h.baseLe (do_lot_exist w B q b e h hz hw he hk h0)
 ·by_cases h2 : findI nameG b.1 e.2.2.1.2.1 < 0
  ·have e0 : lotBE b e.2.2.1 = 6 := by unfold lotBE; rw [if_neg h0, if_pos h2]
   rw [if_neg (by rw [e0]; decide), e0]
   exact calls_base h.baseLe (do_lot_none w B q b e h hz hw he hk (by omega) h2)
  ·by_cases h1 : 60 ≤ b.2.1.length
   ·have e0 : lotBE b e.2.2.1 = 8 := by unfold lotBE; rw [if_neg h0, if_neg h2, if_pos h1]
    rw [if_neg (by rw [e0]; decide), e0]
    exact calls_base h.baseLe (do_lot_full w B q b e h hz hw he hk (by omega) (by omega) h1)
   ·have e0 : lotBE b e.2.2.1 = 0 := by unfold lotBE; rw [if_neg h0, if_neg h2, if_neg h1]
    rw [if_pos e0]
    rcases h.casesL with hc | hc
    ·exact do_lot_in w B q b e h hz hw he hk (by omega) (by omega) (by omega) hc
    ·exact do_lot_nil w B q b e h hz hw he hk (by omega) (by omega) (by omega) hc
theorem rdo_in (w : World) (B q : Nat) (b : Bk) (e : En) (k i : Nat) (l : Lh) (g : Gs) (h : RefB w B q b) (hz : SzE e) (hw : WfB b) (he : entErr e = 0) (hk : e.1 = kIn) (hkL : findI nameL b.2.1 e.2.2.1.1 = (k : Int)) (hl : b.2.1[k]? = some l) (hiG : findI nameG b.1 l.1.2.1 = (i : Int)) (hg : b.1[i]? = some g) :
  Calls Tryz.prog 29 #[.pointer (some ⟨q, 0, none⟩), agE e] w fun r w' => r = .returned (.int .i64 (doB b e).2) ∧ RefB w' B q (doB b e).1 ∧ Turn B w w' := by
 have g1 : e.1 ≠ kGoods := by rw [hk]; decide
 have g2 : e.1 ≠ kLot := by rw [hk]; decide
 obtain ⟨hn1, hn2⟩ := piece_num he g1 g2
 rw [doB_at he g1 g2 hkL hl hiG hg]
 have a1 : stkE e b.2.2 = putE b.2.2 e.2.2.2.2.1 e.2.2.1.1 e.2.2.2.2.2 := by unfold stkE; rw [hk]; rfl
 have a2 : stkL e b.2.2 = putL b.2.2 e.2.2.2.2.1 e.2.2.1.1 e.2.2.2.2.2 := by unfold stkL; rw [hk]; rfl
 have a3 : heldN e.1 l.2 e.2.2.2.2.2 = l.2 := by unfold heldN; rw [hk]; rfl
 have a4 : addSu e.1 g.2 e.2.2.2.2.2 = (g.2.1 + e.2.2.2.2.2, g.2.2.1, g.2.2.2.1, g.2.2.2.2) := by unfold addSu; rw [hk]; rfl
 obtain ⟨⟨u1, u2, u3, u4⟩, u5⟩ := hw.sums g (List.mem_of_getElem? hg)
 have u5' : (g.2.1 ≤ mostS ∧ g.2.2.1 ≤ mostS ∧ g.2.2.2.1 ≤ mostS ∧ g.2.2.2.2 ≤ mostS) := by unfold okSu at u5; simpa using u5
 obtain ⟨u6, u7, u8, u9⟩ := u5'
 obtain ⟨v1, v2⟩ := hw.held l (List.mem_of_getElem? hl)
 have v4 : l.1.1 = e.2.2.1.1 := by
  rcases findI_cases nameL b.2.1 e.2.2.1.1 with ⟨h9, _⟩ | ⟨j, x, h9, h8, h7⟩
  ·omega
  ·have : j = k := by omega
   subst this
   rw [hl] at h8
   injection h8 with h8
   rw [h8]; exact h7
 rw [v4] at v2
 have ep : pieceE b e l g = if putE b.2.2 e.2.2.2.2.1 e.2.2.1.1 e.2.2.2.2.2 = 0 then (if l.2 < 0 ∨ ofL (putL b.2.2 e.2.2.2.2.1 e.2.2.1.1 e.2.2.2.2.2) e.2.2.1.1 < l.2 then 9 else if okSu (g.2.1 + e.2.2.2.2.2, g.2.2.1, g.2.2.2.1, g.2.2.2.2) then 0 else 2) else putE b.2.2 e.2.2.2.2.1 e.2.2.1.1 e.2.2.2.2.2 := by unfold pieceE; rw [a1, a2, a3, a4]
 have eb : pieceB b e k l i g = (b.1.set i (g.1, g.2.1 + e.2.2.2.2.2, g.2.2.1, g.2.2.2.1, g.2.2.2.2), b.2.1.set k (l.1, l.2), putL b.2.2 e.2.2.2.2.1 e.2.2.1.1 e.2.2.2.2.2) := by unfold pieceB; rw [a2, a3, a4]
 rw [eb]
 have HP := fun (W : World) (v : Value) (hv : encLn.Row W 0 48 v b.2.2) => refPut_any v b.2.2 e.2.2.2.2.1 e.2.2.1.1 e.2.2.2.2.2 W hv hw.st hz.tz hz.li
 have HO := fun (W : World) (v : Value) (hv : encLn.Row W 0 48 v (putL b.2.2 e.2.2.2.2.1 e.2.2.1.1 e.2.2.2.2.2)) => refOf_any v (putL b.2.2 e.2.2.2.2.1 e.2.2.1.1 e.2.2.2.2.2) e.2.2.1.1 W hv (hw.st.put e.2.2.2.2.1 e.2.2.1.1 e.2.2.2.2.2)
 by_cases c0 : putE b.2.2 e.2.2.2.2.1 e.2.2.1.1 e.2.2.2.2.2 = 0
 ·rw [if_pos c0] at ep
  rw [c0] at HP
  by_cases c1 : ofL (putL b.2.2 e.2.2.2.2.1 e.2.2.1.1 e.2.2.2.2.2) e.2.2.1.1 < l.2
  ·rw [if_pos (Or.inr c1)] at ep
   rw [ep, if_neg (by decide)]
   exact calls_base h.baseLe (dp_in_short w B q b e k i l g _ _ ⟨h, hz, hw, he, hk, hkL, hl, hiG, hg, hn1, hn2⟩ HP HO c1)
  ·have c2 : ¬ (l.2 < 0 ∨ ofL (putL b.2.2 e.2.2.2.2.1 e.2.2.1.1 e.2.2.2.2.2) e.2.2.1.1 < l.2) := by omega
   rw [if_neg c2] at ep
   by_cases c3 : g.2.1 + e.2.2.2.2.2 ≤ mostS
   ·rw [if_pos (by unfold okSu; simp only [decide_eq_true c3, decide_eq_true u7, decide_eq_true u8, decide_eq_true u9]; rfl)] at ep
    rw [if_pos ep]
    exact dp_in_ok w B q b e k i l g _ _ ⟨h, hz, hw, he, hk, hkL, hl, hiG, hg, hn1, hn2⟩ HP HO (by omega) v1 c3
   ·rw [if_neg (by unfold okSu; simp only [decide_eq_false c3]; simp)] at ep
    rw [ep, if_neg (by decide)]
    exact calls_base h.baseLe (dp_in_bound w B q b e k i l g _ _ ⟨h, hz, hw, he, hk, hkL, hl, hiG, hg, hn1, hn2⟩ HP HO (by omega) (by omega))
 ·rw [if_neg c0] at ep
  rw [ep, if_neg c0]
  exact calls_base h.baseLe (dp_in_err w B q b e k i l g _ _ ⟨h, hz, hw, he, hk, hkL, hl, hiG, hg, hn1, hn2⟩ HP (by omega))
theorem rdo_more (w : World) (B q : Nat) (b : Bk) (e : En) (k i : Nat) (l : Lh) (g : Gs) (h : RefB w B q b) (hz : SzE e) (hw : WfB b) (he : entErr e = 0) (hk : e.1 = kMore) (hkL : findI nameL b.2.1 e.2.2.1.1 = (k : Int)) (hl : b.2.1[k]? = some l) (hiG : findI nameG b.1 l.1.2.1 = (i : Int)) (hg : b.1[i]? = some g) :
  Calls Tryz.prog 29 #[.pointer (some ⟨q, 0, none⟩), agE e] w fun r w' => r = .returned (.int .i64 (doB b e).2) ∧ RefB w' B q (doB b e).1 ∧ Turn B w w' := by
 have g1 : e.1 ≠ kGoods := by rw [hk]; decide
 have g2 : e.1 ≠ kLot := by rw [hk]; decide
 obtain ⟨hn1, hn2⟩ := piece_num he g1 g2
 rw [doB_at he g1 g2 hkL hl hiG hg]
 have a1 : stkE e b.2.2 = putE b.2.2 e.2.2.2.2.1 e.2.2.1.1 e.2.2.2.2.2 := by unfold stkE; rw [hk]; rfl
 have a2 : stkL e b.2.2 = putL b.2.2 e.2.2.2.2.1 e.2.2.1.1 e.2.2.2.2.2 := by unfold stkL; rw [hk]; rfl
 have a3 : heldN e.1 l.2 e.2.2.2.2.2 = l.2 := by unfold heldN; rw [hk]; rfl
 have a4 : addSu e.1 g.2 e.2.2.2.2.2 = (g.2.1, g.2.2.1, g.2.2.2.1 + e.2.2.2.2.2, g.2.2.2.2) := by unfold addSu; rw [hk]; rfl
 obtain ⟨⟨u1, u2, u3, u4⟩, u5⟩ := hw.sums g (List.mem_of_getElem? hg)
 have u5' : (g.2.1 ≤ mostS ∧ g.2.2.1 ≤ mostS ∧ g.2.2.2.1 ≤ mostS ∧ g.2.2.2.2 ≤ mostS) := by unfold okSu at u5; simpa using u5
 obtain ⟨u6, u7, u8, u9⟩ := u5'
 obtain ⟨v1, v2⟩ := hw.held l (List.mem_of_getElem? hl)
 have v4 : l.1.1 = e.2.2.1.1 := by
  rcases findI_cases nameL b.2.1 e.2.2.1.1 with ⟨h9, _⟩ | ⟨j, x, h9, h8, h7⟩
  ·omega
  ·have : j = k := by omega
   subst this
   rw [hl] at h8
   injection h8 with h8
   rw [h8]; exact h7
 rw [v4] at v2
 have ep : pieceE b e l g = if putE b.2.2 e.2.2.2.2.1 e.2.2.1.1 e.2.2.2.2.2 = 0 then (if l.2 < 0 ∨ ofL (putL b.2.2 e.2.2.2.2.1 e.2.2.1.1 e.2.2.2.2.2) e.2.2.1.1 < l.2 then 9 else if okSu (g.2.1, g.2.2.1, g.2.2.2.1 + e.2.2.2.2.2, g.2.2.2.2) then 0 else 2) else putE b.2.2 e.2.2.2.2.1 e.2.2.1.1 e.2.2.2.2.2 := by unfold pieceE; rw [a1, a2, a3, a4]
 have eb : pieceB b e k l i g = (b.1.set i (g.1, g.2.1, g.2.2.1, g.2.2.2.1 + e.2.2.2.2.2, g.2.2.2.2), b.2.1.set k (l.1, l.2), putL b.2.2 e.2.2.2.2.1 e.2.2.1.1 e.2.2.2.2.2) := by unfold pieceB; rw [a2, a3, a4]
 rw [eb]
 have HP := fun (W : World) (v : Value) (hv : encLn.Row W 0 48 v b.2.2) => refPut_any v b.2.2 e.2.2.2.2.1 e.2.2.1.1 e.2.2.2.2.2 W hv hw.st hz.tz hz.li
 have HO := fun (W : World) (v : Value) (hv : encLn.Row W 0 48 v (putL b.2.2 e.2.2.2.2.1 e.2.2.1.1 e.2.2.2.2.2)) => refOf_any v (putL b.2.2 e.2.2.2.2.1 e.2.2.1.1 e.2.2.2.2.2) e.2.2.1.1 W hv (hw.st.put e.2.2.2.2.1 e.2.2.1.1 e.2.2.2.2.2)
 by_cases c0 : putE b.2.2 e.2.2.2.2.1 e.2.2.1.1 e.2.2.2.2.2 = 0
 ·rw [if_pos c0] at ep
  rw [c0] at HP
  by_cases c1 : ofL (putL b.2.2 e.2.2.2.2.1 e.2.2.1.1 e.2.2.2.2.2) e.2.2.1.1 < l.2
  ·rw [if_pos (Or.inr c1)] at ep
   rw [ep, if_neg (by decide)]
   exact calls_base h.baseLe (dp_more_short w B q b e k i l g _ _ ⟨h, hz, hw, he, hk, hkL, hl, hiG, hg, hn1, hn2⟩ HP HO c1)
  ·have c2 : ¬ (l.2 < 0 ∨ ofL (putL b.2.2 e.2.2.2.2.1 e.2.2.1.1 e.2.2.2.2.2) e.2.2.1.1 < l.2) := by omega
   rw [if_neg c2] at ep
   by_cases c3 : g.2.2.2.1 + e.2.2.2.2.2 ≤ mostS
   ·rw [if_pos (by unfold okSu; simp only [decide_eq_true u6, decide_eq_true u7, decide_eq_true c3, decide_eq_true u9]; rfl)] at ep
    rw [if_pos ep]
    exact dp_more_ok w B q b e k i l g _ _ ⟨h, hz, hw, he, hk, hkL, hl, hiG, hg, hn1, hn2⟩ HP HO (by omega) v1 c3
   ·rw [if_neg (by unfold okSu; simp only [decide_eq_false c3]; simp)] at ep
    rw [ep, if_neg (by decide)]
    exact calls_base h.baseLe (dp_more_bound w B q b e k i l g _ _ ⟨h, hz, hw, he, hk, hkL, hl, hiG, hg, hn1, hn2⟩ HP HO (by omega) (by omega))
 ·rw [if_neg c0] at ep
  rw [ep, if_neg c0]
  exact calls_base h.baseLe (dp_more_err w B q b e k i l g _ _ ⟨h, hz, hw, he, hk, hkL, hl, hiG, hg, hn1, hn2⟩ HP (by omega))
theorem rdo_out (w : World) (B q : Nat) (b : Bk) (e : En) (k i : Nat) (l : Lh) (g : Gs) (h : RefB w B q b) (hz : SzE e) (hw : WfB b) (he : entErr e = 0) (hk : e.1 = kOut) (hkL : findI nameL b.2.1 e.2.2.1.1 = (k : Int)) (hl : b.2.1[k]? = some l) (hiG : findI nameG b.1 l.1.2.1 = (i : Int)) (hg : b.1[i]? = some g) :
  Calls Tryz.prog 29 #[.pointer (some ⟨q, 0, none⟩), agE e] w fun r w' => r = .returned (.int .i64 (doB b e).2) ∧ RefB w' B q (doB b e).1 ∧ Turn B w w' := by
 have g1 : e.1 ≠ kGoods := by rw [hk]; decide
 have g2 : e.1 ≠ kLot := by rw [hk]; decide
 obtain ⟨hn1, hn2⟩ := piece_num he g1 g2
 rw [doB_at he g1 g2 hkL hl hiG hg]
 have a1 : stkE e b.2.2 = takeE b.2.2 (e.2.2.2.1, e.2.2.1.1) e.2.2.2.2.2 := by unfold stkE; rw [hk]; rfl
 have a2 : stkL e b.2.2 = takeL b.2.2 (e.2.2.2.1, e.2.2.1.1) e.2.2.2.2.2 := by unfold stkL; rw [hk]; rfl
 have a3 : heldN e.1 l.2 e.2.2.2.2.2 = l.2 := by unfold heldN; rw [hk]; rfl
 have a4 : addSu e.1 g.2 e.2.2.2.2.2 = (g.2.1, g.2.2.1 + e.2.2.2.2.2, g.2.2.2.1, g.2.2.2.2) := by unfold addSu; rw [hk]; rfl
 obtain ⟨⟨u1, u2, u3, u4⟩, u5⟩ := hw.sums g (List.mem_of_getElem? hg)
 have u5' : (g.2.1 ≤ mostS ∧ g.2.2.1 ≤ mostS ∧ g.2.2.2.1 ≤ mostS ∧ g.2.2.2.2 ≤ mostS) := by unfold okSu at u5; simpa using u5
 obtain ⟨u6, u7, u8, u9⟩ := u5'
 obtain ⟨v1, v2⟩ := hw.held l (List.mem_of_getElem? hl)
 have v4 : l.1.1 = e.2.2.1.1 := by
  rcases findI_cases nameL b.2.1 e.2.2.1.1 with ⟨h9, _⟩ | ⟨j, x, h9, h8, h7⟩
  ·omega
  ·have : j = k := by omega
   subst this
   rw [hl] at h8
   injection h8 with h8
   rw [h8]; exact h7
 rw [v4] at v2
 have ep : pieceE b e l g = if takeE b.2.2 (e.2.2.2.1, e.2.2.1.1) e.2.2.2.2.2 = 0 then (if l.2 < 0 ∨ ofL (takeL b.2.2 (e.2.2.2.1, e.2.2.1.1) e.2.2.2.2.2) e.2.2.1.1 < l.2 then 9 else if okSu (g.2.1, g.2.2.1 + e.2.2.2.2.2, g.2.2.2.1, g.2.2.2.2) then 0 else 2) else takeE b.2.2 (e.2.2.2.1, e.2.2.1.1) e.2.2.2.2.2 := by unfold pieceE; rw [a1, a2, a3, a4]
 have eb : pieceB b e k l i g = (b.1.set i (g.1, g.2.1, g.2.2.1 + e.2.2.2.2.2, g.2.2.2.1, g.2.2.2.2), b.2.1.set k (l.1, l.2), takeL b.2.2 (e.2.2.2.1, e.2.2.1.1) e.2.2.2.2.2) := by unfold pieceB; rw [a2, a3, a4]
 rw [eb]
 have HP := fun (W : World) (v : Value) (hv : encLn.Row W 0 48 v b.2.2) => refTake_any v b.2.2 e.2.2.2.1 e.2.2.1.1 e.2.2.2.2.2 W hv hw.st
 have HO := fun (W : World) (v : Value) (hv : encLn.Row W 0 48 v (takeL b.2.2 (e.2.2.2.1, e.2.2.1.1) e.2.2.2.2.2)) => refOf_any v (takeL b.2.2 (e.2.2.2.1, e.2.2.1.1) e.2.2.2.2.2) e.2.2.1.1 W hv (hw.st.take (e.2.2.2.1, e.2.2.1.1) e.2.2.2.2.2)
 by_cases c0 : takeE b.2.2 (e.2.2.2.1, e.2.2.1.1) e.2.2.2.2.2 = 0
 ·rw [if_pos c0] at ep
  rw [c0] at HP
  by_cases c1 : ofL (takeL b.2.2 (e.2.2.2.1, e.2.2.1.1) e.2.2.2.2.2) e.2.2.1.1 < l.2
  ·rw [if_pos (Or.inr c1)] at ep
   rw [ep, if_neg (by decide)]
   exact calls_base h.baseLe (dp_out_short w B q b e k i l g _ _ ⟨h, hz, hw, he, hk, hkL, hl, hiG, hg, hn1, hn2⟩ HP HO c1)
  ·have c2 : ¬ (l.2 < 0 ∨ ofL (takeL b.2.2 (e.2.2.2.1, e.2.2.1.1) e.2.2.2.2.2) e.2.2.1.1 < l.2) := by omega
   rw [if_neg c2] at ep
   by_cases c3 : g.2.2.1 + e.2.2.2.2.2 ≤ mostS
   ·rw [if_pos (by unfold okSu; simp only [decide_eq_true u6, decide_eq_true c3, decide_eq_true u8, decide_eq_true u9]; rfl)] at ep
    rw [if_pos ep]
    exact dp_out_ok w B q b e k i l g _ _ ⟨h, hz, hw, he, hk, hkL, hl, hiG, hg, hn1, hn2⟩ HP HO (by omega) v1 c3
   ·rw [if_neg (by unfold okSu; simp only [decide_eq_false c3]; simp)] at ep
    rw [ep, if_neg (by decide)]
    exact calls_base h.baseLe (dp_out_bound w B q b e k i l g _ _ ⟨h, hz, hw, he, hk, hkL, hl, hiG, hg, hn1, hn2⟩ HP HO (by omega) (by omega))
 ·rw [if_neg c0] at ep
  rw [ep, if_neg c0]
  exact calls_base h.baseLe (dp_out_err w B q b e k i l g _ _ ⟨h, hz, hw, he, hk, hkL, hl, hiG, hg, hn1, hn2⟩ HP (by omega))
theorem rdo_less (w : World) (B q : Nat) (b : Bk) (e : En) (k i : Nat) (l : Lh) (g : Gs) (h : RefB w B q b) (hz : SzE e) (hw : WfB b) (he : entErr e = 0) (hk : e.1 = kLess) (hkL : findI nameL b.2.1 e.2.2.1.1 = (k : Int)) (hl : b.2.1[k]? = some l) (hiG : findI nameG b.1 l.1.2.1 = (i : Int)) (hg : b.1[i]? = some g) :
  Calls Tryz.prog 29 #[.pointer (some ⟨q, 0, none⟩), agE e] w fun r w' => r = .returned (.int .i64 (doB b e).2) ∧ RefB w' B q (doB b e).1 ∧ Turn B w w' := by
 have g1 : e.1 ≠ kGoods := by rw [hk]; decide
 have g2 : e.1 ≠ kLot := by rw [hk]; decide
 obtain ⟨hn1, hn2⟩ := piece_num he g1 g2
 rw [doB_at he g1 g2 hkL hl hiG hg]
 have a1 : stkE e b.2.2 = takeE b.2.2 (e.2.2.2.1, e.2.2.1.1) e.2.2.2.2.2 := by unfold stkE; rw [hk]; rfl
 have a2 : stkL e b.2.2 = takeL b.2.2 (e.2.2.2.1, e.2.2.1.1) e.2.2.2.2.2 := by unfold stkL; rw [hk]; rfl
 have a3 : heldN e.1 l.2 e.2.2.2.2.2 = l.2 := by unfold heldN; rw [hk]; rfl
 have a4 : addSu e.1 g.2 e.2.2.2.2.2 = (g.2.1, g.2.2.1, g.2.2.2.1, g.2.2.2.2 + e.2.2.2.2.2) := by unfold addSu; rw [hk]; rfl
 obtain ⟨⟨u1, u2, u3, u4⟩, u5⟩ := hw.sums g (List.mem_of_getElem? hg)
 have u5' : (g.2.1 ≤ mostS ∧ g.2.2.1 ≤ mostS ∧ g.2.2.2.1 ≤ mostS ∧ g.2.2.2.2 ≤ mostS) := by unfold okSu at u5; simpa using u5
 obtain ⟨u6, u7, u8, u9⟩ := u5'
 obtain ⟨v1, v2⟩ := hw.held l (List.mem_of_getElem? hl)
 have v4 : l.1.1 = e.2.2.1.1 := by
  rcases findI_cases nameL b.2.1 e.2.2.1.1 with ⟨h9, _⟩ | ⟨j, x, h9, h8, h7⟩
  ·omega
  ·have : j = k := by omega
   subst this
   rw [hl] at h8
   injection h8 with h8
   rw [h8]; exact h7
 rw [v4] at v2
 have ep : pieceE b e l g = if takeE b.2.2 (e.2.2.2.1, e.2.2.1.1) e.2.2.2.2.2 = 0 then (if l.2 < 0 ∨ ofL (takeL b.2.2 (e.2.2.2.1, e.2.2.1.1) e.2.2.2.2.2) e.2.2.1.1 < l.2 then 9 else if okSu (g.2.1, g.2.2.1, g.2.2.2.1, g.2.2.2.2 + e.2.2.2.2.2) then 0 else 2) else takeE b.2.2 (e.2.2.2.1, e.2.2.1.1) e.2.2.2.2.2 := by unfold pieceE; rw [a1, a2, a3, a4]
 have eb : pieceB b e k l i g = (b.1.set i (g.1, g.2.1, g.2.2.1, g.2.2.2.1, g.2.2.2.2 + e.2.2.2.2.2), b.2.1.set k (l.1, l.2), takeL b.2.2 (e.2.2.2.1, e.2.2.1.1) e.2.2.2.2.2) := by unfold pieceB; rw [a2, a3, a4]
 rw [eb]
 have HP := fun (W : World) (v : Value) (hv : encLn.Row W 0 48 v b.2.2) => refTake_any v b.2.2 e.2.2.2.1 e.2.2.1.1 e.2.2.2.2.2 W hv hw.st
 have HO := fun (W : World) (v : Value) (hv : encLn.Row W 0 48 v (takeL b.2.2 (e.2.2.2.1, e.2.2.1.1) e.2.2.2.2.2)) => refOf_any v (takeL b.2.2 (e.2.2.2.1, e.2.2.1.1) e.2.2.2.2.2) e.2.2.1.1 W hv (hw.st.take (e.2.2.2.1, e.2.2.1.1) e.2.2.2.2.2)
 by_cases c0 : takeE b.2.2 (e.2.2.2.1, e.2.2.1.1) e.2.2.2.2.2 = 0
 ·rw [if_pos c0] at ep
  rw [c0] at HP
  by_cases c1 : ofL (takeL b.2.2 (e.2.2.2.1, e.2.2.1.1) e.2.2.2.2.2) e.2.2.1.1 < l.2
  ·rw [if_pos (Or.inr c1)] at ep
   rw [ep, if_neg (by decide)]
   exact calls_base h.baseLe (dp_less_short w B q b e k i l g _ _ ⟨h, hz, hw, he, hk, hkL, hl, hiG, hg, hn1, hn2⟩ HP HO c1)
  ·have c2 : ¬ (l.2 < 0 ∨ ofL (takeL b.2.2 (e.2.2.2.1, e.2.2.1.1) e.2.2.2.2.2) e.2.2.1.1 < l.2) := by omega
   rw [if_neg c2] at ep
   by_cases c3 : g.2.2.2.2 + e.2.2.2.2.2 ≤ mostS
   ·rw [if_pos (by unfold okSu; simp only [decide_eq_true u6, decide_eq_true u7, decide_eq_true u8, decide_eq_true c3]; rfl)] at ep
    rw [if_pos ep]
    exact dp_less_ok w B q b e k i l g _ _ ⟨h, hz, hw, he, hk, hkL, hl, hiG, hg, hn1, hn2⟩ HP HO (by omega) v1 c3
   ·rw [if_neg (by unfold okSu; simp only [decide_eq_false c3]; simp)] at ep
    rw [ep, if_neg (by decide)]
    exact calls_base h.baseLe (dp_less_bound w B q b e k i l g _ _ ⟨h, hz, hw, he, hk, hkL, hl, hiG, hg, hn1, hn2⟩ HP HO (by omega) (by omega))
 ·rw [if_neg c0] at ep
  rw [ep, if_neg c0]
  exact calls_base h.baseLe (dp_less_err w B q b e k i l g _ _ ⟨h, hz, hw, he, hk, hkL, hl, hiG, hg, hn1, hn2⟩ HP (by omega))
theorem rdo_move (w : World) (B q : Nat) (b : Bk) (e : En) (k i : Nat) (l : Lh) (g : Gs) (h : RefB w B q b) (hz : SzE e) (hw : WfB b) (he : entErr e = 0) (hk : e.1 = kMove) (hkL : findI nameL b.2.1 e.2.2.1.1 = (k : Int)) (hl : b.2.1[k]? = some l) (hiG : findI nameG b.1 l.1.2.1 = (i : Int)) (hg : b.1[i]? = some g) :
  Calls Tryz.prog 29 #[.pointer (some ⟨q, 0, none⟩), agE e] w fun r w' => r = .returned (.int .i64 (doB b e).2) ∧ RefB w' B q (doB b e).1 ∧ Turn B w w' := by
 have g1 : e.1 ≠ kGoods := by rw [hk]; decide
 have g2 : e.1 ≠ kLot := by rw [hk]; decide
 obtain ⟨hn1, hn2⟩ := piece_num he g1 g2
 rw [doB_at he g1 g2 hkL hl hiG hg]
 have a1 : stkE e b.2.2 = moveE b.2.2 e.2.2.2.1 e.2.2.2.2.1 e.2.2.1.1 e.2.2.2.2.2 := by unfold stkE; rw [hk]; rfl
 have a2 : stkL e b.2.2 = moveL b.2.2 e.2.2.2.1 e.2.2.2.2.1 e.2.2.1.1 e.2.2.2.2.2 := by unfold stkL; rw [hk]; rfl
 have a3 : heldN e.1 l.2 e.2.2.2.2.2 = l.2 := by unfold heldN; rw [hk]; rfl
 have a4 : addSu e.1 g.2 e.2.2.2.2.2 = (g.2.1, g.2.2.1, g.2.2.2.1, g.2.2.2.2) := by unfold addSu; rw [hk]; rfl
 obtain ⟨⟨u1, u2, u3, u4⟩, u5⟩ := hw.sums g (List.mem_of_getElem? hg)
 have u5' : (g.2.1 ≤ mostS ∧ g.2.2.1 ≤ mostS ∧ g.2.2.2.1 ≤ mostS ∧ g.2.2.2.2 ≤ mostS) := by unfold okSu at u5; simpa using u5
 obtain ⟨u6, u7, u8, u9⟩ := u5'
 obtain ⟨v1, v2⟩ := hw.held l (List.mem_of_getElem? hl)
 have v4 : l.1.1 = e.2.2.1.1 := by
  rcases findI_cases nameL b.2.1 e.2.2.1.1 with ⟨h9, _⟩ | ⟨j, x, h9, h8, h7⟩
  ·omega
  ·have : j = k := by omega
   subst this
   rw [hl] at h8
   injection h8 with h8
   rw [h8]; exact h7
 rw [v4] at v2
 have ep : pieceE b e l g = if moveE b.2.2 e.2.2.2.1 e.2.2.2.2.1 e.2.2.1.1 e.2.2.2.2.2 = 0 then (if l.2 < 0 ∨ ofL (moveL b.2.2 e.2.2.2.1 e.2.2.2.2.1 e.2.2.1.1 e.2.2.2.2.2) e.2.2.1.1 < l.2 then 9 else if okSu (g.2.1, g.2.2.1, g.2.2.2.1, g.2.2.2.2) then 0 else 2) else moveE b.2.2 e.2.2.2.1 e.2.2.2.2.1 e.2.2.1.1 e.2.2.2.2.2 := by unfold pieceE; rw [a1, a2, a3, a4]
 have eb : pieceB b e k l i g = (b.1.set i (g.1, g.2.1, g.2.2.1, g.2.2.2.1, g.2.2.2.2), b.2.1.set k (l.1, l.2), moveL b.2.2 e.2.2.2.1 e.2.2.2.2.1 e.2.2.1.1 e.2.2.2.2.2) := by unfold pieceB; rw [a2, a3, a4]
 rw [eb]
 have HP := fun (W : World) (v : Value) (hv : encLn.Row W 0 48 v b.2.2) => refMove_any v b.2.2 e.2.2.2.1 e.2.2.2.2.1 e.2.2.1.1 e.2.2.2.2.2 W hv hw.st hz.tz hz.li
 have HO := fun (W : World) (v : Value) (hv : encLn.Row W 0 48 v (moveL b.2.2 e.2.2.2.1 e.2.2.2.2.1 e.2.2.1.1 e.2.2.2.2.2)) => refOf_any v (moveL b.2.2 e.2.2.2.1 e.2.2.2.2.1 e.2.2.1.1 e.2.2.2.2.2) e.2.2.1.1 W hv (hw.st.move e.2.2.2.1 e.2.2.2.2.1 e.2.2.1.1 e.2.2.2.2.2)
 by_cases c0 : moveE b.2.2 e.2.2.2.1 e.2.2.2.2.1 e.2.2.1.1 e.2.2.2.2.2 = 0
 ·rw [if_pos c0] at ep
  rw [c0] at HP
  by_cases c1 : ofL (moveL b.2.2 e.2.2.2.1 e.2.2.2.2.1 e.2.2.1.1 e.2.2.2.2.2) e.2.2.1.1 < l.2
  ·rw [if_pos (Or.inr c1)] at ep
   rw [ep, if_neg (by decide)]
   exact calls_base h.baseLe (dp_move_short w B q b e k i l g _ _ ⟨h, hz, hw, he, hk, hkL, hl, hiG, hg, hn1, hn2⟩ HP HO c1)
  ·have c2 : ¬ (l.2 < 0 ∨ ofL (moveL b.2.2 e.2.2.2.1 e.2.2.2.2.1 e.2.2.1.1 e.2.2.2.2.2) e.2.2.1.1 < l.2) := by omega
   rw [if_neg c2] at ep
   rw [if_pos (by unfold okSu; simp only [decide_eq_true u6, decide_eq_true u7, decide_eq_true u8, decide_eq_true u9]; rfl)] at ep
   rw [if_pos ep]
   exact dp_move_ok w B q b e k i l g _ _ ⟨h, hz, hw, he, hk, hkL, hl, hiG, hg, hn1, hn2⟩ HP HO (by omega) (by omega)
 ·rw [if_neg c0] at ep
  rw [ep, if_neg c0]
  exact calls_base h.baseLe (dp_move_err w B q b e k i l g _ _ ⟨h, hz, hw, he, hk, hkL, hl, hiG, hg, hn1, hn2⟩ HP (by omega))
theorem rdo_hold (w : World) (B q : Nat) (b : Bk) (e : En) (k i : Nat) (l : Lh) (g : Gs) (h : RefB w B q b) (hz : SzE e) (hw : WfB b) (he : entErr e = 0) (hk : e.1 = kHold) (hkL : findI nameL b.2.1 e.2.2.1.1 = (k : Int)) (hl : b.2.1[k]? = some l) (hiG : findI nameG b.1 l.1.2.1 = (i : Int)) (hg : b.1[i]? = some g) :
  Calls Tryz.prog 29 #[.pointer (some ⟨q, 0, none⟩), agE e] w fun r w' => r = .returned (.int .i64 (doB b e).2) ∧ RefB w' B q (doB b e).1 ∧ Turn B w w' := by
 have g1 : e.1 ≠ kGoods := by rw [hk]; decide
 have g2 : e.1 ≠ kLot := by rw [hk]; decide
 obtain ⟨hn1, hn2⟩ := piece_num he g1 g2
 rw [doB_at he g1 g2 hkL hl hiG hg]
 have a1 : stkE e b.2.2 = 0 := by unfold stkE; rw [hk]; rfl
 have a2 : stkL e b.2.2 = b.2.2 := by unfold stkL; rw [hk]; rfl
 have a3 : heldN e.1 l.2 e.2.2.2.2.2 = l.2 + e.2.2.2.2.2 := by unfold heldN; rw [hk]; rfl
 have a4 : addSu e.1 g.2 e.2.2.2.2.2 = (g.2.1, g.2.2.1, g.2.2.2.1, g.2.2.2.2) := by unfold addSu; rw [hk]; rfl
 obtain ⟨⟨u1, u2, u3, u4⟩, u5⟩ := hw.sums g (List.mem_of_getElem? hg)
 have u5' : (g.2.1 ≤ mostS ∧ g.2.2.1 ≤ mostS ∧ g.2.2.2.1 ≤ mostS ∧ g.2.2.2.2 ≤ mostS) := by unfold okSu at u5; simpa using u5
 obtain ⟨u6, u7, u8, u9⟩ := u5'
 obtain ⟨v1, v2⟩ := hw.held l (List.mem_of_getElem? hl)
 have v4 : l.1.1 = e.2.2.1.1 := by
  rcases findI_cases nameL b.2.1 e.2.2.1.1 with ⟨h9, _⟩ | ⟨j, x, h9, h8, h7⟩
  ·omega
  ·have : j = k := by omega
   subst this
   rw [hl] at h8
   injection h8 with h8
   rw [h8]; exact h7
 rw [v4] at v2
 have ep : pieceE b e l g = if 0 = 0 then (if l.2 + e.2.2.2.2.2 < 0 ∨ ofL (b.2.2) e.2.2.1.1 < l.2 + e.2.2.2.2.2 then 9 else if okSu (g.2.1, g.2.2.1, g.2.2.2.1, g.2.2.2.2) then 0 else 2) else 0 := by unfold pieceE; rw [a1, a2, a3, a4]
 have eb : pieceB b e k l i g = (b.1.set i (g.1, g.2.1, g.2.2.1, g.2.2.2.1, g.2.2.2.2), b.2.1.set k (l.1, l.2 + e.2.2.2.2.2), b.2.2) := by unfold pieceB; rw [a2, a3, a4]
 rw [eb]
 have HO := fun (W : World) (v : Value) (hv : encLn.Row W 0 48 v (b.2.2)) => refOf_any v (b.2.2) e.2.2.1.1 W hv (hw.st)
 rw [if_pos rfl] at ep
 by_cases c1 : ofL (b.2.2) e.2.2.1.1 < l.2 + e.2.2.2.2.2
 ·rw [if_pos (Or.inr c1)] at ep
  rw [ep, if_neg (by decide)]
  exact calls_base h.baseLe (dp_hold_short w B q b e k i l g _ ⟨h, hz, hw, he, hk, hkL, hl, hiG, hg, hn1, hn2⟩ HO c1)
 ·have c2 : ¬ (l.2 + e.2.2.2.2.2 < 0 ∨ ofL (b.2.2) e.2.2.1.1 < l.2 + e.2.2.2.2.2) := by omega
  rw [if_neg c2] at ep
  rw [if_pos (by unfold okSu; simp only [decide_eq_true u6, decide_eq_true u7, decide_eq_true u8, decide_eq_true u9]; rfl)] at ep
  rw [if_pos ep]
  exact dp_hold_ok w B q b e k i l g _ ⟨h, hz, hw, he, hk, hkL, hl, hiG, hg, hn1, hn2⟩ HO (by omega) (by omega)
theorem rdo_free (w : World) (B q : Nat) (b : Bk) (e : En) (k i : Nat) (l : Lh) (g : Gs) (h : RefB w B q b) (hz : SzE e) (hw : WfB b) (he : entErr e = 0) (hk : e.1 = kFree) (hkL : findI nameL b.2.1 e.2.2.1.1 = (k : Int)) (hl : b.2.1[k]? = some l) (hiG : findI nameG b.1 l.1.2.1 = (i : Int)) (hg : b.1[i]? = some g) :
  Calls Tryz.prog 29 #[.pointer (some ⟨q, 0, none⟩), agE e] w fun r w' => r = .returned (.int .i64 (doB b e).2) ∧ RefB w' B q (doB b e).1 ∧ Turn B w w' := by
 have g1 : e.1 ≠ kGoods := by rw [hk]; decide
 have g2 : e.1 ≠ kLot := by rw [hk]; decide
 obtain ⟨hn1, hn2⟩ := piece_num he g1 g2
 rw [doB_at he g1 g2 hkL hl hiG hg]
 have a1 : stkE e b.2.2 = 0 := by unfold stkE; rw [hk]; rfl
 have a2 : stkL e b.2.2 = b.2.2 := by unfold stkL; rw [hk]; rfl
 have a3 : heldN e.1 l.2 e.2.2.2.2.2 = l.2 - e.2.2.2.2.2 := by unfold heldN; rw [hk]; rfl
 have a4 : addSu e.1 g.2 e.2.2.2.2.2 = (g.2.1, g.2.2.1, g.2.2.2.1, g.2.2.2.2) := by unfold addSu; rw [hk]; rfl
 obtain ⟨⟨u1, u2, u3, u4⟩, u5⟩ := hw.sums g (List.mem_of_getElem? hg)
 have u5' : (g.2.1 ≤ mostS ∧ g.2.2.1 ≤ mostS ∧ g.2.2.2.1 ≤ mostS ∧ g.2.2.2.2 ≤ mostS) := by unfold okSu at u5; simpa using u5
 obtain ⟨u6, u7, u8, u9⟩ := u5'
 obtain ⟨v1, v2⟩ := hw.held l (List.mem_of_getElem? hl)
 have v4 : l.1.1 = e.2.2.1.1 := by
  rcases findI_cases nameL b.2.1 e.2.2.1.1 with ⟨h9, _⟩ | ⟨j, x, h9, h8, h7⟩
  ·omega
  ·have : j = k := by omega
   subst this
   rw [hl] at h8
   injection h8 with h8
   rw [h8]; exact h7
 rw [v4] at v2
 have ep : pieceE b e l g = if 0 = 0 then (if l.2 - e.2.2.2.2.2 < 0 ∨ ofL (b.2.2) e.2.2.1.1 < l.2 - e.2.2.2.2.2 then 9 else if okSu (g.2.1, g.2.2.1, g.2.2.2.1, g.2.2.2.2) then 0 else 2) else 0 := by unfold pieceE; rw [a1, a2, a3, a4]
 have eb : pieceB b e k l i g = (b.1.set i (g.1, g.2.1, g.2.2.1, g.2.2.2.1, g.2.2.2.2), b.2.1.set k (l.1, l.2 - e.2.2.2.2.2), b.2.2) := by unfold pieceB; rw [a2, a3, a4]
 rw [eb]
 have HO := fun (W : World) (v : Value) (hv : encLn.Row W 0 48 v (b.2.2)) => refOf_any v (b.2.2) e.2.2.1.1 W hv (hw.st)
 rw [if_pos rfl] at ep
 by_cases c1 : l.2 - e.2.2.2.2.2 < 0
 ·rw [if_pos (Or.inl c1)] at ep
  rw [ep, if_neg (by decide)]
  exact calls_base h.baseLe (dp_free_neg w B q b e k i l g ⟨h, hz, hw, he, hk, hkL, hl, hiG, hg, hn1, hn2⟩ c1)
 ·have c2 : ¬ (l.2 - e.2.2.2.2.2 < 0 ∨ ofL (b.2.2) e.2.2.1.1 < l.2 - e.2.2.2.2.2) := by omega
  rw [if_neg c2, if_pos (by unfold okSu; simp only [decide_eq_true u6, decide_eq_true u7, decide_eq_true u8, decide_eq_true u9]; rfl)] at ep
  rw [if_pos ep]
  exact dp_free_ok w B q b e k i l g _ ⟨h, hz, hw, he, hk, hkL, hl, hiG, hg, hn1, hn2⟩ HO (by omega) (by omega)
theorem refDo_any (w : World) (B q : Nat) (b : Bk) (e : En) (h : RefB w B q b) (hz : SzE e) (hw : WfB b) :
  Calls Tryz.prog 29 #[.pointer (some ⟨q, 0, none⟩), agE e] w fun r w' => r = .returned (.int .i64 (doB b e).2) ∧ RefB w' B q (doB b e).1 ∧ Turn B w w' := by
 by_cases he : entErr e = 0
 ·by_cases h1 : e.1 = kGoods
  ·exact rdo_goods w B q b e h hz hw he h1
  by_cases h2 : e.1 = kLot
  ·exact rdo_lot w B q b e h hz hw he h2
  rcases findI_cases nameL b.2.1 e.2.2.1.1 with ⟨h9, _⟩ | ⟨k, l, hkL, hl, _⟩
  ·rw [doB_none he h1 h2 (by omega)]
   exact calls_base h.baseLe (do_none w B q b e h hz hw he h1 h2 (by omega))
  ·obtain ⟨g0, hg0, hg1⟩ := hw.lots l (List.mem_of_getElem? hl)
   rcases findI_cases nameG b.1 l.1.2.1 with ⟨_, h8⟩ | ⟨i, g, hiG, hg, _⟩
   ·exact absurd hg1 (h8 g0 hg0)
   ·rcases kind_cases e.1 with hk | hk | (hk | hk) | (hk | hk) | hk | (hk | hk) | hk
    ·exact absurd hk h1
    ·exact absurd hk h2
    ·exact rdo_in w B q b e k i l g h hz hw he hk hkL hl hiG hg
    ·exact rdo_more w B q b e k i l g h hz hw he hk hkL hl hiG hg
    ·exact rdo_out w B q b e k i l g h hz hw he hk hkL hl hiG hg
    ·exact rdo_less w B q b e k i l g h hz hw he hk hkL hl hiG hg
    ·exact rdo_move w B q b e k i l g h hz hw he hk hkL hl hiG hg
    ·exact rdo_hold w B q b e k i l g h hz hw he hk hkL hl hiG hg
    ·exact rdo_free w B q b e k i l g h hz hw he hk hkL hl hiG hg
    ·have h0 := (entErr_own he).1
     unfold ownErr at h0
     rw [hk.kd] at h0
     simp at h0
 ·rw [doB_err he]
  exact calls_base h.baseLe (do_err w B q b e h hz he)
end Go.Proofs.YtppodkkefegbkaaGreatDoor
