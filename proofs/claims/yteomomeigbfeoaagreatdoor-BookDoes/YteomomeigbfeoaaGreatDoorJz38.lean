/-
 What the reference's Book.Do does, whatever the entry: the book behind it, and the number of its error; nothing below the book's own memory is turned.
-/
import Derived.Test.YteomomeigbfeoaaGreatDoorJz29
import Derived.Test.YteomomeigbfeoaaGreatDoorBDp1
import Derived.Test.YteomomeigbfeoaaGreatDoorBDp2
import Derived.Test.YteomomeigbfeoaaGreatDoorBDp3
import Derived.Test.YteomomeigbfeoaaGreatDoorBDp4
import Derived.Test.YteomomeigbfeoaaGreatDoorBDp5
import Derived.Test.YteomomeigbfeoaaGreatDoorBDp6
import Derived.Test.YteomomeigbfeoaaGreatDoorJz12
import Derived.Test.YteomomeigbfeoaaGreatDoorJz14
set_option maxRecDepth 100000
set_option maxHeartbeats 16000000
namespace Go.Proofs.YteomomeigbfeoaaGreatDoor
open Go.RowKit Go.Lib Go.Sort
theorem RefB.baseLe {w : World} {B q : Nat} {b : Bk} (h : RefB w B q b) : B ≤ w.heap.size := by
 obtain ⟨_, _, _, h9, _, _, _, h8⟩ := h
 exact Nat.le_trans h8 (Nat.le_of_lt (Array.getElem?_eq_some_iff.1 h9).1)
theorem calls_base {f : Nat} {args : Array Value} {w : World} {B q : Nat} {b : Bk} {c : Int} (hB : B ≤ w.heap.size) (h : Calls Tryz.prog f args w fun r w' => r = .returned (.int .i64 c) ∧ RefB w' B q b ∧ Below w.heap.size w w') : Calls Tryz.prog f args w fun r w' => r = .returned (.int .i64 c) ∧ RefB w' B q b ∧ Turn B w w' :=
 h.mono fun _ _ ⟨h1, h2, h3⟩ => ⟨h1, h2, Turn.of h3 hB⟩
theorem rdo_goods (w : World) (B q : Nat) (b : Bk) (e : En) (h : RefB w B q b) (hz : SzE e) (hw : WfB b) (he : entErr e = 0) (hk : e.1 = kGoods) :
  Calls Tryz.prog 40 #[.pointer (some ⟨q, 0, none⟩), agE e] w fun r w' => r = .returned (.int .i64 (doB b e).2) ∧ RefB w' B q (doB b e).1 ∧ Turn B w w' := by
 rw [doB_goods he hk]
 by_cases h0 : 0 ≤ findI nameG b.1 e.2.1.1
 ·have e0 : goodsE b e.2.1 = 7 := by unfold goodsE; rw [if_pos h0]
  rw [if_neg (by rw [e0]; decide), e0]
  exact calls_base h.baseLe (do_goods_exist w B q b e h hz hw he hk h0)
 ·by_cases h1 : 30 ≤ b.1.length
  ·have e0 : goodsE b e.2.1 = 8 := by unfold goodsE; rw [if_neg h0, if_pos h1]
   rw [if_neg (by rw [e0]; decide), e0]
   exact calls_base h.baseLe (do_goods_full w B q b e h hz hw he hk (by omega) h1)
  ·have e0 : goodsE b e.2.1 = 0 := by unfold goodsE; rw [if_neg h0, if_neg h1]
   rw [if_pos e0]
   rcases h.casesG with hc | hc
   ·exact do_goods_in w B q b e h hz hw he hk (by omega) (by omega) hc
   ·exact do_goods_nil w B q b e h hz hw he hk (by omega) (by omega) hc
theorem rdo_lot (w : World) (B q : Nat) (b : Bk) (e : En) (h : RefB w B q b) (hz : SzE e) (hw : WfB b) (he : entErr e = 0) (hk : e.1 = kLot) :
  Calls Tryz.prog 40 #[.pointer (some ⟨q, 0, none⟩), agE e] w fun r w' => r = .returned (.int .i64 (doB b e).2) ∧ RefB w' B q (doB b e).1 ∧ Turn B w w' := by
 rw [doB_lot he hk]
 by_cases h0 : 0 ≤ findI nameL b.2.1 e.2.2.1.1
 ·have e0 : lotBE b e.2.2.1 = 7 := by unfold lotBE; rw [if_pos h0]
  rw [if_neg (by rw [e0]; decide), e0]
  exact calls_base h.baseLe (do_lot_exist w B q b e h hz hw he hk h0)
 ·by_cases h2 : findI nameG b.1 e.2.2.1.2.1 < 0
  ·have e0 : lotBE b e.2.2.1 = 6 := by unfold lotBE; rw [if_neg h0, if_pos h2]
   rw [if_neg (by rw [e0]; decide), e0]
   exact calls_base h.baseLe (do_lot_none w B q b e h hz hw he hk (by omega) h2)
  ·by_cases h1 : 60 ≤ b.2.1.length
   ·have e0 : lotBE b e.2.2.1 = 8 := by unfold lotBE; rw [if_neg h0, if_neg h2, if_pos h1]
    rw [if_neg (by rw [e0]; decide), e0]
    exact calls_base h.baseLe (do_lot_full w B q b e h hz hw he hk (by omega) (by omega) h1)
   ·have e0 : lotBE b e.2.2.1 = 0 := by unfold lotBE; rw [if_neg h0, if_neg h2, if_neg h1]
    rw [if_pos e0]
    rcases h.casesL with hc | hc
    ·exact do_lot_in w B q b e h hz hw he hk (by omega) (by omega) (by omega) hc
    ·exact do_lot_nil w B q b e h hz hw he hk (by omega) (by omega) (by omega) hc
theorem rdo_in (w : World) (B q : Nat) (b : Bk) (e : En) (k i : Nat) (l : Lh) (g : Gs) (h : RefB w B q b) (hz : SzE e) (hw : WfB b) (he : entErr e = 0) (hk : e.1 = kIn) (hkL : findI nameL b.2.1 e.2.2.1.1 = (k : Int)) (hl : b.2.1[k]? = some l) (hiG : findI nameG b.1 l.1.2.1 = (i : Int)) (hg : b.1[i]? = some g) :
  Calls Tryz.prog 40 #[.pointer (some ⟨q, 0, none⟩), agE e] w fun r w' => r = .returned (.int .i64 (doB b e).2) ∧ RefB w' B q (doB b e).1 ∧ Turn B w w' := by
 have g1 : e.1 ≠ kGoods := by rw [hk]; decide
 have g2 : e.1 ≠ kLot := by rw [hk]; decide
 obtain ⟨hn1, hn2⟩ := piece_num he g1 g2
 rw [doB_at he g1 g2 hkL hl hiG hg]
 have a1 : stkE e b.2.2 = putE b.2.2 e.2.2.2.2.1 e.2.2.1.1 e.2.2.2.2.2 := by unfold stkE; rw [hk]; rfl
 have a2 : stkL e b.2.2 = putL b.2.2 e.2.2.2.2.1 e.2.2.1.1 e.2.2.2.2.2 := by unfold stkL; rw [hk]; rfl
 have a3 : heldN e.1 l.2 e.2.2.2.2.2 = l.2 := by unfold heldN; rw [hk]; rfl
 have a4 : addSu e.1 g.2 e.2.2.2.2.2 = (g.2.1 + e.2.2.2.2.2, g.2.2.1, g.2.2.2.1, g.2.2.2.2) := by unfold addSu; rw [hk]; rfl
 obtain ⟨⟨u1, u2, u3, u4⟩, u5⟩ := hw.sums g (List.mem_of_getElem? hg)
 have u5' : (g.2.1 ≤ mostS ∧ g.2.2.1 ≤ mostS ∧ g.2.2.2.1 ≤ mostS ∧ g.2.2.2.2 ≤ mostS) := by unfold okSu at u5; simpa using u5
 obtain ⟨u6, u7, u8, u9⟩ := u5'
 obtain ⟨v1, v2⟩ := hw.held l (List.mem_of_getElem? hl)
 have v4 : l.1.1 = e.2.2.1.1 := by
  rcases findI_cases nameL b.2.1 e.2.2.1.1 with ⟨h9, _⟩ | ⟨j, x, h9, h8, h7⟩
  ·omega
  ·have : j = k := by omega
   subst this
   rw [hl] at h8
   injection h8 with h8
   rw [h8]; exact h7
 rw [v4] at v2
 have ep : pieceE b e l g = if putE b.2.2 e.2.2.2.2.1 e.2.2.1.1 e.2.2.2.2.2 = 0 then (if l.2 < 0 ∨ ofL (putL b.2.2 e.2.2.2.2.1 e.2.2.1.1 e.2.2.2.2.2) e.2.2.1.1 < l.2 then 9 else if okSu (g.2.1 + e.2.2.2.2.2, g.2.2.1, g.2.2.2.1, g.2.2.2.2) then 0 else 2) else putE b.2.2 e.2.2.2.2.1 e.2.2.1.1 e.2.2.2.2.2 := by unfold pieceE; rw [a1, a2, a3, a4]
 have eb : pieceB b e k l i g = (b.1.set i (g.1, g.2.1 + e.2.2.2.2.2, g.2.2.1, g.2.2.2.1, g.2.2.2.2), b.2.1.set k (l.1, l.2), putL b.2.2 e.2.2.2.2.1 e.2.2.1.1 e.2.2.2.2.2) := by unfold pieceB; rw [a2, a3, a4]
 rw [eb]
 have HP := fun (W : World) (v : Value) (hv : encLn.Row W 0 70 v b.2.2) => refPut_any v b.2.2 e.2.2.2.2.1 e.2.2.1.1 e.2.2.2.2.2 W hv hw.st hz.tz hz.li
 have HO := fun (W : World) (v : Value) (hv : encLn.Row W 0 70 v (putL b.2.2 e.2.2.2.2.1 e.2.2.1.1 e.2.2.2.2.2)) => refOf_any v (putL b.2.2 e.2.2.2.2.1 e.2.2.1.1 e.2.2.2.2.2) e.2.2.1.1 W hv (hw.st.put e.2.2.2.2.1 e.2.2.1.1 e.2.2.2.2.2)
 by_cases c0 : putE b.2.2 e.2.2.2.2.1 e.2.2.1.1 e.2.2.2.2.2 = 0
 ·rw [if_pos c0] at ep
  rw [c0] at HP
  by_cases c1 : ofL (putL b.2.2 e.2.2.2.2.1 e.2.2.1.1 e.2.2.2.2.2) e.2.2.1.1 < l.2
  ·rw [if_pos (Or.inr c1)] at ep
   rw [ep, if_neg (by decide)]
   exact calls_base h.baseLe (dp_in_short w B q b e k i l g _ _ ⟨h, hz, hw, he, hk, hkL, hl, hiG, hg, hn1, hn2⟩ HP HO c1)
  ·have c2 : ¬ (l.2 < 0 ∨ ofL (putL b.2.2 e.2.2.2.2.1 e.2.2.1.1 e.2.2.2.2.2) e.2.2.1.1 < l.2) := by omega
   rw [if_neg c2] at ep
   by_cases c3 : g.2.1 + e.2.2.2.2.2 ≤ mostS
   ·rw [if_pos (by unfold okSu; simp only [decide_eq_true c3, decide_eq_true u7, decide_eq_true u8, decide_eq_true u9]; rfl)] at ep
    rw [if_pos ep]
    exact dp_in_ok w B q b e k i l g _ _ ⟨h, hz, hw, he, hk, hkL, hl, hiG, hg, hn1, hn2⟩ HP HO (by omega) v1 c3
   ·rw [if_neg (by unfold okSu; simp only [decide_eq_false c3]; simp)] at ep
    rw [ep, if_neg (by decide)]
    exact calls_base h.baseLe (dp_in_bound w B q b e k i l g _ _ ⟨h, hz, hw, he, hk, hkL, hl, hiG, hg, hn1, hn2⟩ HP HO (by omega) (by omega))
 ·rw [if_neg c0] at ep
  rw [ep, if_neg c0]
  exact calls_base h.baseLe (dp_in_err w B q b e k i l g _ _ ⟨h, hz, hw, he, hk, hkL, hl, hiG, hg, hn1, hn2⟩ HP (by omega))
theorem rdo_more (w : World) (B q : Nat) (b : Bk) (e : En) (k i : Nat) (l : Lh) (g : Gs) (h : RefB w B q b) (hz : SzE e) (hw : WfB b) (he : entErr e = 0) (hk : e.1 = kMore) (hkL : findI nameL b.2.1 e.2.2.1.1 = (k : Int)) (hl : b.2.1[k]? = some l) (hiG : findI nameG b.1 l.1.2.1 = (i : Int)) (hg : b.1[i]? = some g) :
  Calls Tryz.prog 40 #[.pointer (some ⟨q, 0, none⟩), agE e] w fun r w' => r = .returned (.int .i64 (doB b e).2) ∧ RefB w' B q (doB b e).1 ∧ Turn B w w' := by
 have g1 : e.1 ≠ kGoods := by rw [hk]; decide
 have g2 : e.1 ≠ kLot := by rw [hk]; decide
 obtain ⟨hn1, hn2⟩ := piece_num he g1 g2
 rw [doB_at he g1 g2 hkL hl hiG hg]
 have a1 : stkE e b.2.2 = putE b.2.2 e.2.2.2.2.1 e.2.2.1.1 e.2.2.2.2.2 := by unfold stkE; rw [hk]; rfl
 have a2 : stkL e b.2.2 = putL b.2.2 e.2.2.2.2.1 e.2.2.1.1 e.2.2.2.2.2 := by unfold stkL; rw [hk]; rfl
 have a3 : heldN e.1 l.2 e.2.2.2.2.2 = l.2 := by unfold heldN; rw [hk]; rfl
 have a4 : addSu e.1 g.2 e.2.2.2.2.2 = (g.2.1, g.2.2.1, g.2.2.2.1 + e.2.2.2.2.2, g.2.2.2.2) := by unfold addSu; rw [hk]; rfl
 obtain ⟨⟨u1, u2, u3, u4⟩, u5⟩ := hw.sums g (List.mem_of_getElem? hg)
 have u5' : (g.2.1 ≤ mostS ∧ g.2.2.1 ≤ mostS ∧ g.2.2.2.1 ≤ mostS ∧ g.2.2.2.2 ≤ mostS) := by unfold okSu at u5; simpa using u5
 obtain ⟨u6, u7, u8, u9⟩ := u5'
 obtain ⟨v1, v2⟩ := hw.held l (List.mem_of_getElem? hl)
 have v4 : l.1.1 = e.2.2.1.1 := by
  rcases findI_cases nameL b.2.1 e.2.2.1.1 with ⟨h9, _⟩ | ⟨j, x, h9, h8, h7⟩
  ·omega
  ·have : j = k := by omega
   subst this
   rw [hl] at h8
   injection h8 with h8
   rw [h8]; exact h7
 rw [v4] at v2
 have ep : pieceE b e l g = if putE b.2.2 e.2.2.2.2.1 e.2.2.1.1 e.2.2.2.2.2 = 0 then (if l.2 < 0 ∨ ofL (putL b.2.2 e.2.2.2.2.1 e.2.2.1.1 e.2.2.2.2.2) e.2.2.1.1 < l.2 then 9 else if okSu (g.2.1, g.2.2.1, g.2.2.2.1 + e.2.2.2.2.2, g.2.2.2.2) then 0 else 2) else putE b.2.2 e.2.2.2.2.1 e.2.2.1.1 e.2.2.2.2.2 := by unfold pieceE; rw [a1, a2, a3, a4]
 have eb : pieceB b e k l i g = (b.1.set i (g.1, g.2.1, g.2.2.1, g.2.2.2.1 + e.2.2.2.2.2, g.2.2.2.2), b.2.1.set k (l.1, l.2), putL b.2.2 e.2.2.2.2.1 e.2.2.1.1 e.2.2.2.2.2) := by unfold pieceB; rw [a2, a3, a4]
 rw [eb]
 have HP := fun (W : World) (v : Value) (hv : encLn.Row W 0 70 v b.2.2) => refPut_any v b.2.2 e.2.2.2.2.1 e.2.2.1.1 e.2.2.2.2.2 W hv hw.st hz.tz hz.li
 have HO := fun (W : World) (v : Value) (hv : encLn.Row W 0 70 v (putL b.2.2 e.2.2.2.2.1 e.2.2.1.1 e.2.2.2.2.2)) => refOf_any v (putL b.2.2 e.2.2.2.2.1 e.2.2.1.1 e.2.2.2.2.2) e.2.2.1.1 W hv (hw.st.put e.2.2.2.2.1 e.2.2.1.1 e.2.2.2.2.2)
 by_cases c0 : putE b.2.2 e.2.2.2.2.1 e.2.2.1.1 e.2.2.2.2.2 = 0
 ·rw [if_pos c0] at ep
  rw [c0] at HP
  by_cases c1 : ofL (putL b.2.2 e.2.2.2.2.1 e.2.2.1.1 e.2.2.2.2.2) e.2.2.1.1 < l.2
  ·rw [if_pos (Or.inr c1)] at ep
   rw [ep, if_neg (by decide)]
   exact calls_base h.baseLe (dp_more_short w B q b e k i l g _ _ ⟨h, hz, hw, he, hk, hkL, hl, hiG, hg, hn1, hn2⟩ HP HO c1)
  ·have c2 : ¬ (l.2 < 0 ∨ ofL (putL b.2.2 e.2.2.2.2.1 e.2.2.1.1 e.2.2.2.2.2) e.2.2.1.1 < l.2) := by omega
   rw [if_neg c2] at ep
   by_cases c3 : g.2.2.2.1 + e.2.2.2.2.2 ≤ mostS
   ·rw [if_pos (by unfold okSu; simp only [decide_eq_true u6, decide_eq_true u7, decide_eq_true c3, decide_eq_true u9]; rfl)] at ep
    rw [if_pos ep]
    exact dp_more_ok w B q b e k i l g _ _ ⟨h, hz, hw, he, hk, hkL, hl, hiG, hg, hn1, hn2⟩ HP HO (by omega) v1 c3
   ·rw [if_neg (by unfold okSu; simp only [decide_eq_false c3]; simp)] at ep
    rw [ep, if_neg (by decide)]
    exact calls_base h.baseLe (dp_more_bound w B q b e k i l g _ _ ⟨h, hz, hw, he, hk, hkL, hl, hiG, hg, hn1, hn2⟩ HP HO (by omega) (by omega))
 ·rw [if_neg c0] at ep
  rw [ep, if_neg c0]
  exact calls_base h.baseLe (dp_more_err w B q b e k i l g _ _ ⟨h, hz, hw, he, hk, hkL, hl, hiG, hg, hn1, hn2⟩ HP (by omega))
theorem rdo_out (w : World) (B q : Nat) (b : Bk) (e : En) (k i : Nat) (l : Lh) (g : Gs) (h : RefB w B q b) (hz : SzE e) (hw : WfB b) (he : entErr e = 0) (hk : e.1 = kOut) (hkL : findI nameL b.2.1 e.2.2.1.1 = (k : Int)) (hl : b.2.1[k]? = some l) (hiG : findI nameG b.1 l.1.2.1 = (i : Int)) (hg : b.1[i]? = some g) :
  Calls Tryz.prog 40 #[.pointer (some ⟨q, 0, none⟩), agE e] w fun r w' => r = .returned (.int .i64 (doB b e).2) ∧ RefB w' B q (doB b e).1 ∧ Turn B w w' := by
 have g1 : e.1 ≠ kGoods := by rw [hk]; decide
 have g2 : e.1 ≠ kLot := by rw [hk]; decide
 obtain ⟨hn1, hn2⟩ := piece_num he g1 g2
 rw [doB_at he g1 g2 hkL hl hiG hg]
 have a1 : stkE e b.2.2 = takeE b.2.2 (e.2.2.2.1, e.2.2.1.1) e.2.2.2.2.2 := by unfold stkE; rw [hk]; rfl
 have a2 : stkL e b.2.2 = takeL b.2.2 (e.2.2.2.1, e.2.2.1.1) e.2.2.2.2.2 := by unfold stkL; rw [hk]; rfl
 have a3 : heldN e.1 l.2 e.2.2.2.2.2 = l.2 := by unfold heldN; rw [hk]; rfl
 have a4 : addSu e.1 g.2 e.2.2.2.2.2 = (g.2.1, g.2.2.1 + e.2.2.2.2.2, g.2.2.2.1, g.2.2.2.2) := by unfold addSu; rw [hk]; rfl
 obtain ⟨⟨u1, u2, u3, u4⟩, u5⟩ := hw.sums g (List.mem_of_getElem? hg)
 have u5' : (g.2.1 ≤ mostS ∧ g.2.2.1 ≤ mostS ∧ g.2.2.2.1 ≤ mostS ∧ g.2.2.2.2 ≤ mostS) := by unfold okSu at u5; simpa using u5
 obtain ⟨u6, u7, u8, u9⟩ := u5'
 obtain ⟨v1, v2⟩ := hw.held l (List.mem_of_getElem? hl)
 have v4 : l.1.1 = e.2.2.1.1 := by
  rcases findI_cases nameL b.2.1 e.2.2.1.1 with ⟨h9, _⟩ | ⟨j, x, h9, h8, h7⟩
  ·omega
  ·have : j = k := by omega
   subst this
   rw [hl] at h8
   injection h8 with h8
   rw [h8]; exact h7
 rw [v4] at v2
 have ep : pieceE b e l g = if takeE b.2.2 (e.2.2.2.1, e.2.2.1.1) e.2.2.2.2.2 = 0 then (if l.2 < 0 ∨ ofL (takeL b.2.2 (e.2.2.2.1, e.2.2.1.1) e.2.2.2.2.2) e.2.2.1.1 < l.2 then 9 else if okSu (g.2.1, g.2.2.1 + e.2.2.2.2.2, g.2.2.2.1, g.2.2.2.2) then 0 else 2) else takeE b.2.2 (e.2.2.2.1, e.2.2.1.1) e.2.2.2.2.2 := by unfold pieceE; rw [a1, a2, a3, a4]
 have eb : pieceB b e k l i g = (b.1.set i (g.1, g.2.1, g.2.2.1 + e.2.2.2.2.2, g.2.2.2.1, g.2.2.2.2), b.2.1.set k (l.1, l.2), takeL b.2.2 (e.2.2.2.1, e.2.2.1.1) e.2.2.2.2.2) := by unfold pieceB; rw [a2, a3, a4]
 rw [eb]
 have HP := fun (W : World) (v : Value) (hv : encLn.Row W 0 70 v b.2.2) => refTake_any v b.2.2 e.2.2.2.1 e.2.2.1.1 e.2.2.2.2.2 W hv hw.st
 have HO := fun (W : World) (v : Value) (hv : encLn.Row W 0 70 v (takeL b.2.2 (e.2.2.2.1, e.2.2.1.1) e.2.2.2.2.2)) => refOf_any v (takeL b.2.2 (e.2.2.2.1, e.2.2.1.1) e.2.2.2.2.2) e.2.2.1.1 W hv (hw.st.take (e.2.2.2.1, e.2.2.1.1) e.2.2.2.2.2)
 by_cases c0 : takeE b.2.2 (e.2.2.2.1, e.2.2.1.1) e.2.2.2.2.2 = 0
 ·rw [if_pos c0] at ep
  rw [c0] at HP
  by_cases c1 : ofL (takeL b.2.2 (e.2.2.2.1, e.2.2.1.1) e.2.2.2.2.2) e.2.2.1.1 < l.2
  ·rw [if_pos (Or.inr c1)] at ep
   rw [ep, if_neg (by decide)]
   exact calls_base h.baseLe (dp_out_short w B q b e k i l g _ _ ⟨h, hz, hw, he, hk, hkL, hl, hiG, hg, hn1, hn2⟩ HP HO c1)
  ·have c2 : ¬ (l.2 < 0 ∨ ofL (takeL b.2.2 (e.2.2.2.1, e.2.2.1.1) e.2.2.2.2.2) e.2.2.1.1 < l.2) := by omega
   rw [if_neg c2] at ep
   by_cases c3 : g.2.2.1 + e.2.2.2.2.2 ≤ mostS
   ·rw [if_pos (by unfold okSu; simp only [decide_eq_true u6, decide_eq_true c3, decide_eq_true u8, decide_eq_true u9]; rfl)] at ep
    rw [if_pos ep]
    exact dp_out_ok w B q b e k i l g _ _ ⟨h, hz, hw, he, hk, hkL, hl, hiG, hg, hn1, hn2⟩ HP HO (by omega) v1 c3
   ·rw [if_neg (by unfold okSu; simp only [decide_eq_false c3]; simp)] at ep
    rw [ep, if_neg (by decide)]
    exact calls_base h.baseLe (dp_out_bound w B q b e k i l g _ _ ⟨h, hz, hw, he, hk, hkL, hl, hiG, hg, hn1, hn2⟩ HP HO (by omega) (by omega))
 ·rw [if_neg c0] at ep
  rw [ep, if_neg c0]
  exact calls_base h.baseLe (dp_out_err w B q b e k i l g _ _ ⟨h, hz, hw, he, hk, hkL, hl, hiG, hg, hn1, hn2⟩ HP (by omega))
theorem rdo_less (w : World) (B q : Nat) (b : Bk) (e : En) (k i : Nat) (l : Lh) (g : Gs) (h : RefB w B q b) (hz : SzE e) (hw : WfB b) (he : entErr e = 0) (hk : e.1 = kLess) (hkL : findI nameL b.2.1 e.2.2.1.1 = (k : Int)) (hl : b.2.1[k]? = some l) (hiG : findI nameG b.1 l.1.2.1 = (i : Int)) (hg : b.1[i]? = some g) :
  Calls Tryz.prog 40 #[.pointer (some ⟨q, 0, none⟩), agE e] w fun r w' => r = .returned (.int .i64 (doB b e).2) ∧ RefB w' B q (doB b e).1 ∧ Turn B w w' := by
 have g1 : e.1 ≠ kGoods := by rw [hk]; decide
 have g2 : e.1 ≠ kLot := by rw [hk]; decide
 obtain ⟨hn1, hn2⟩ := piece_num he g1 g2
 rw [doB_at he g1 g2 hkL hl hiG hg]
 have a1 : stkE e b.2.2 = takeE b.2.2 (e.2.2.2.1, e.2.2.1.1) e.2.2.2.2.2 := by unfold stkE; rw [hk]; rfl
 have a2 : stkL e b.2.2 = takeL b.2.2 (e.2.2.2.1, e.2.2.1.1) e.2.2.2.2.2 := by unfold stkL; rw [hk]; rfl
 have a3 : heldN e.1 l.2 e.2.2.2.2.2 = l.2 := by unfold heldN; rw [hk]; rfl
 have a4 : addSu e.1 g.2 e.2.2.2.2.2 = (g.2.1, g.2.2.1, g.2.2.2.1, g.2.2.2.2 + e.2.2.2.2.2) := by unfold addSu; rw [hk]; rfl
 obtain ⟨⟨u1, u2, u3, u4⟩, u5⟩ := hw.sums g (List.mem_of_getElem? hg)
 have u5' : (g.2.1 ≤ mostS ∧ g.2.2.1 ≤ mostS ∧ g.2.2.2.1 ≤ mostS ∧ g.2.2.2.2 ≤ mostS) := by unfold okSu at u5; simpa using u5
 obtain ⟨u6, u7, u8, u9⟩ := u5'
 obtain ⟨v1, v2⟩ := hw.held l (List.mem_of_getElem? hl)
 have v4 : l.1.1 = e.2.2.1.1 := by
  rcases findI_cases nameL b.2.1 e.2.2.1.1 with ⟨h9, _⟩ | ⟨j, x, h9, h8, h7⟩
  ·omega
  ·have : j = k := by omega
   subst this
   rw [hl] at h8
   injection h8 with h8
   rw [h8]; exact h7
 rw [v4] at v2
 have ep : pieceE b e l g = if takeE b.2.2 (e.2.2.2.1, e.2.2.1.1) e.2.2.2.2.2 = 0 then (if l.2 < 0 ∨ ofL (takeL b.2.2 (e.2.2.2.1, e.2.2.1.1) e.2.2.2.2.2) e.2.2.1.1 < l.2 then 9 else if okSu (g.2.1, g.2.2.1, g.2.2.2.1, g.2.2.2.2 + e.2.2.2.2.2) then 0 else 2) else takeE b.2.2 (e.2.2.2.1, e.2.2.1.1) e.2.2.2.2.2 := by unfold pieceE; rw [a1, a2, a3, a4]
 have eb : pieceB b e k l i g = (b.1.set i (g.1, g.2.1, g.2.2.1, g.2.2.2.1, g.2.2.2.2 + e.2.2.2.2.2), b.2.1.set k (l.1, l.2), takeL b.2.2 (e.2.2.2.1, e.2.2.1.1) e.2.2.2.2.2) := by unfold pieceB; rw [a2, a3, a4]
 rw [eb]
 have HP := fun (W : World) (v : Value) (hv : encLn.Row W 0 70 v b.2.2) => refTake_any v b.2.2 e.2.2.2.1 e.2.2.1.1 e.2.2.2.2.2 W hv hw.st
 have HO := fun (W : World) (v : Value) (hv : encLn.Row W 0 70 v (takeL b.2.2 (e.2.2.2.1, e.2.2.1.1) e.2.2.2.2.2)) => refOf_any v (takeL b.2.2 (e.2.2.2.1, e.2.2.1.1) e.2.2.2.2.2) e.2.2.1.1 W hv (hw.st.take (e.2.2.2.1, e.2.2.1.1) e.2.2.2.2.2)
 by_cases c0 : takeE b.2.2 (e.2.2.2.1, e.2.2.1.1) e.2.2.2.2.2 = 0
 ·rw [if_pos c0] at ep
  rw [c0] at HP
  by_cases c1 : ofL (takeL b.2.2 (e.2.2.2.1, e.2.2.1.1) e.2.2.2.2.2) e.2.2.1.1 < l.2
  ·rw [if_pos (Or.inr c1)] at ep
   rw [ep, if_neg (by decide)]
   exact calls_base h.baseLe (dp_less_short w B q b e k i l g _ _ ⟨h, hz, hw, he, hk, hkL, hl, hiG, hg, hn1, hn2⟩ HP HO c1)
  ·have c2 : ¬ (l.2 < 0 ∨ ofL (takeL b.2.2 (e.2.2.2.1, e.2.2.1.1) e.2.2.2.2.2) e.2.2.1.1 < l.2) := by omega
   rw [if_neg c2] at ep
   by_cases c3 : g.2.2.2.2 + e.2.2.2.2.2 ≤ mostS
   ·rw [if_pos (by unfold okSu; simp only [decide_eq_true u6, decide_eq_true u7, decide_eq_true u8, decide_eq_true c3]; rfl)] at ep
    rw [if_pos ep]
    exact dp_less_ok w B q b e k i l g _ _ ⟨h, hz, hw, he, hk, hkL, hl, hiG, hg, hn1, hn2⟩ HP HO (by omega) v1 c3
   ·rw [if_neg (by unfold okSu; simp only [decide_eq_false c3]; simp)] at ep
    rw [ep, if_neg (by decide)]
    exact calls_base h.baseLe (dp_less_bound w B q b e k i l g _ _ ⟨h, hz, hw, he, hk, hkL, hl, hiG, hg, hn1, hn2⟩ HP HO (by omega) (by omega))
 ·rw [if_neg c0] at ep
  rw [ep, if_neg c0]
  exact calls_base h.baseLe (dp_less_err w B q b e k i l g _ _ ⟨h, hz, hw, he, hk, hkL, hl, hiG, hg, hn1, hn2⟩ HP (by omega))
theorem rdo_move (w : World) (B q : Nat) (b : Bk) (e : En) (k i : Nat) (l : Lh) (g : Gs) (h : RefB w B q b) (hz : SzE e) (hw : WfB b) (he : entErr e = 0) (hk : e.1 = kMove) (hkL : findI nameL b.2.1 e.2.2.1.1 = (k : Int)) (hl : b.2.1[k]? = some l) (hiG : findI nameG b.1 l.1.2.1 = (i : Int)) (hg : b.1[i]? = some g) :
  Calls Tryz.prog 40 #[.pointer (some ⟨q, 0, none⟩), agE e] w fun r w' => r = .returned (.int .i64 (doB b e).2) ∧ RefB w' B q (doB b e).1 ∧ Turn B w w' := by
 have g1 : e.1 ≠ kGoods := by rw [hk]; decide
 have g2 : e.1 ≠ kLot := by rw [hk]; decide
 obtain ⟨hn1, hn2⟩ := piece_num he g1 g2
 rw [doB_at he g1 g2 hkL hl hiG hg]
 have a1 : stkE e b.2.2 = moveE b.2.2 e.2.2.2.1 e.2.2.2.2.1 e.2.2.1.1 e.2.2.2.2.2 := by unfold stkE; rw [hk]; rfl
 have a2 : stkL e b.2.2 = moveL b.2.2 e.2.2.2.1 e.2.2.2.2.1 e.2.2.1.1 e.2.2.2.2.2 := by unfold stkL; rw [hk]; rfl
 have a3 : heldN e.1 l.2 e.2.2.2.2.2 = l.2 := by unfold heldN; rw [hk]; rfl
 have a4 : addSu e.1 g.2 e.2.2.2.2.2 = (g.2.1, g.2.2.1, g.2.2.2.1, g.2.2.2.2) := by unfold addSu; rw [hk]; rfl
 obtain ⟨⟨u1, u2, u3, u4⟩, u5⟩ := hw.sums g (List.mem_of_getElem? hg)
 have u5' : (g.2.1 ≤ mostS ∧ g.2.2.1 ≤ mostS ∧ g.2.2.2.1 ≤ mostS ∧ g.2.2.2.2 ≤ mostS) := by unfold okSu at u5; simpa using u5
 obtain ⟨u6, u7, u8, u9⟩ := u5'
 obtain ⟨v1, v2⟩ := hw.held l (List.mem_of_getElem? hl)
 have v4 : l.1.1 = e.2.2.1.1 := by
  rcases findI_cases nameL b.2.1 e.2.2.1.1 with ⟨h9, _⟩ | ⟨j, x, h9, h8, h7⟩
  ·omega
  ·have : j = k := by omega
   subst this
   rw [hl] at h8
   injection h8 with h8
   rw [h8]; exact h7
 rw [v4] at v2
 have ep : pieceE b e l g = if moveE b.2.2 e.2.2.2.1 e.2.2.2.2.1 e.2.2.1.1 e.2.2.2.2.2 = 0 then (if l.2 < 0 ∨ ofL (moveL b.2.2 e.2.2.2.1 e.2.2.2.2.1 e.2.2.1.1 e.2.2.2.2.2) e.2.2.1.1 < l.2 then 9 else if okSu (g.2.1, g.2.2.1, g.2.2.2.1, g.2.2.2.2) then 0 else 2) else moveE b.2.2 e.2.2.2.1 e.2.2.2.2.1 e.2.2.1.1 e.2.2.2.2.2 := by unfold pieceE; rw [a1, a2, a3, a4]
 have eb : pieceB b e k l i g = (b.1.set i (g.1, g.2.1, g.2.2.1, g.2.2.2.1, g.2.2.2.2), b.2.1.set k (l.1, l.2), moveL b.2.2 e.2.2.2.1 e.2.2.2.2.1 e.2.2.1.1 e.2.2.2.2.2) := by unfold pieceB; rw [a2, a3, a4]
 rw [eb]
 have HP := fun (W : World) (v : Value) (hv : encLn.Row W 0 70 v b.2.2) => refMove_any v b.2.2 e.2.2.2.1 e.2.2.2.2.1 e.2.2.1.1 e.2.2.2.2.2 W hv hw.st hz.tz hz.li
 have HO := fun (W : World) (v : Value) (hv : encLn.Row W 0 70 v (moveL b.2.2 e.2.2.2.1 e.2.2.2.2.1 e.2.2.1.1 e.2.2.2.2.2)) => refOf_any v (moveL b.2.2 e.2.2.2.1 e.2.2.2.2.1 e.2.2.1.1 e.2.2.2.2.2) e.2.2.1.1 W hv (hw.st.move e.2.2.2.1 e.2.2.2.2.1 e.2.2.1.1 e.2.2.2.2.2)
 by_cases c0 : moveE b.2.2 e.2.2.2.1 e.2.2.2.2.1 e.2.2.1.1 e.2.2.2.2.2 = 0
 ·rw [if_pos c0] at ep
  rw [c0] at HP
  by_cases c1 : ofL (moveL b.2.2 e.2.2.2.1 e.2.2.2.2.1 e.2.2.1.1 e.2.2.2.2.2) e.2.2.1.1 < l.2
  ·rw [if_pos (Or.inr c1)] at ep
   rw [ep, if_neg (by decide)]
   exact calls_base h.baseLe (dp_move_short w B q b e k i l g _ _ ⟨h, hz, hw, he, hk, hkL, hl, hiG, hg, hn1, hn2⟩ HP HO c1)
  ·have c2 : ¬ (l.2 < 0 ∨ ofL (moveL b.2.2 e.2.2.2.1 e.2.2.2.2.1 e.2.2.1.1 e.2.2.2.2.2) e.2.2.1.1 < l.2) := by omega
   rw [if_neg c2] at ep
   rw [if_pos (by unfold okSu; simp only [decide_eq_true u6, decide_eq_true u7, decide_eq_true u8, decide_eq_true u9]; rfl)] at ep
   rw [if_pos ep]
   exact dp_move_ok w B q b e k i l g _ _ ⟨h, hz, hw, he, hk, hkL, hl, hiG, hg, hn1, hn2⟩ HP HO (by omega) (by omega)
 ·rw [if_neg c0] at ep
  rw [ep, if_neg c0]
  exact calls_base h.baseLe (dp_move_err w B q b e k i l g _ _ ⟨h, hz, hw, he, hk, hkL, hl, hiG, hg, hn1, hn2⟩ HP (by omega))
theorem rdo_hold (w : World) (B q : Nat) (b : Bk) (e : En) (k i : Nat) (l : Lh) (g : Gs) (h : RefB w B q b) (hz : SzE e) (hw : WfB b) (he : entErr e = 0) (hk : e.1 = kHold) (hkL : findI nameL b.2.1 e.2.2.1.1 = (k : Int)) (hl : b.2.1[k]? = some l) (hiG : findI nameG b.1 l.1.2.1 = (i : Int)) (hg : b.1[i]? = some g) :
  Calls Tryz.prog 40 #[.pointer (some ⟨q, 0, none⟩), agE e] w fun r w' => r = .returned (.int .i64 (doB b e).2) ∧ RefB w' B q (doB b e).1 ∧ Turn B w w' := by
 have g1 : e.1 ≠ kGoods := by rw [hk]; decide
 have g2 : e.1 ≠ kLot := by rw [hk]; decide
 obtain ⟨hn1, hn2⟩ := piece_num he g1 g2
 rw [doB_at he g1 g2 hkL hl hiG hg]
 have a1 : stkE e b.2.2 = 0 := by unfold stkE; rw [hk]; rfl
 have a2 : stkL e b.2.2 = b.2.2 := by unfold stkL; rw [hk]; rfl
 have a3 : heldN e.1 l.2 e.2.2.2.2.2 = l.2 + e.2.2.2.2.2 := by unfold heldN; rw [hk]; rfl
 have a4 : addSu e.1 g.2 e.2.2.2.2.2 = (g.2.1, g.2.2.1, g.2.2.2.1, g.2.2.2.2) := by unfold addSu; rw [hk]; rfl
 obtain ⟨⟨u1, u2, u3, u4⟩, u5⟩ := hw.sums g (List.mem_of_getElem? hg)
 have u5' : (g.2.1 ≤ mostS ∧ g.2.2.1 ≤ mostS ∧ g.2.2.2.1 ≤ mostS ∧ g.2.2.2.2 ≤ mostS) := by unfold okSu at u5; simpa using u5
 obtain ⟨u6, u7, u8, u9⟩ := u5'
 obtain ⟨v1, v2⟩ := hw.held l (List.mem_of_getElem? hl)
 have v4 : l.1.1 = e.2.2.1.1 := by
  rcases findI_cases nameL b.2.1 e.2.2.1.1 with ⟨h9, _⟩ | ⟨j, x, h9, h8, h7⟩
  ·omega
  ·have : j = k := by omega
   subst this
   rw [hl] at h8
   injection h8 with h8
   rw [h8]; exact h7
 rw [v4] at v2
 have ep : pieceE b e l g = if 0 = 0 then (if l.2 + e.2.2.2.2.2 < 0 ∨ ofL (b.2.2) e.2.2.1.1 < l.2 + e.2.2.2.2.2 then 9 else if okSu (g.2.1, g.2.2.1, g.2.2.2.1, g.2.2.2.2) then 0 else 2) else 0 := by unfold pieceE; rw [a1, a2, a3, a4]
 have eb : pieceB b e k l i g = (b.1.set i (g.1, g.2.1, g.2.2.1, g.2.2.2.1, g.2.2.2.2), b.2.1.set k (l.1, l.2 + e.2.2.2.2.2), b.2.2) := by unfold pieceB; rw [a2, a3, a4]
 rw [eb]
 have HO := fun (W : World) (v : Value) (hv : encLn.Row W 0 70 v (b.2.2)) => refOf_any v (b.2.2) e.2.2.1.1 W hv (hw.st)
 rw [if_pos rfl] at ep
 by_cases c1 : ofL (b.2.2) e.2.2.1.1 < l.2 + e.2.2.2.2.2
 ·rw [if_pos (Or.inr c1)] at ep
  rw [ep, if_neg (by decide)]
  exact calls_base h.baseLe (dp_hold_short w B q b e k i l g _ ⟨h, hz, hw, he, hk, hkL, hl, hiG, hg, hn1, hn2⟩ HO c1)
 ·have c2 : ¬ (l.2 + e.2.2.2.2.2 < 0 ∨ ofL (b.2.2) e.2.2.1.1 < l.2 + e.2.2.2.2.2) := by omega
  rw [if_neg c2] at ep
  rw [if_pos (by unfold okSu; simp only [decide_eq_true u6, decide_eq_true u7, decide_eq_true u8, decide_eq_true u9]; rfl)] at ep
  rw [if_pos ep]
  exact dp_hold_ok w B q b e k i l g _ ⟨h, hz, hw, he, hk, hkL, hl, hiG, hg, hn1, hn2⟩ HO (by omega) (by omega)
theorem rdo_free (w : World) (B q : Nat) (b : Bk) (e : En) (k i : Nat) (l : Lh) (g : Gs) (h : RefB w B q b) (hz : SzE e) (hw : WfB b) (he : entErr e = 0) (hk : e.1 = kFree) (hkL : findI nameL b.2.1 e.2.2.1.1 = (k : Int)) (hl : b.2.1[k]? = some l) (hiG : findI nameG b.1 l.1.2.1 = (i : Int)) (hg : b.1[i]? = some g) :
  Calls Tryz.prog 40 #[.pointer (some ⟨q, 0, none⟩), agE e] w fun r w' => r = .returned (.int .i64 (doB b e).2) ∧ RefB w' B q (doB b e).1 ∧ Turn B w w' := by
 have g1 : e.1 ≠ kGoods := by rw [hk]; decide
 have g2 : e.1 ≠ kLot := by rw [hk]; decide
 obtain ⟨hn1, hn2⟩ := piece_num he g1 g2
 rw [doB_at he g1 g2 hkL hl hiG hg]
 have a1 : stkE e b.2.2 = 0 := by unfold stkE; rw [hk]; rfl
 have a2 : stkL e b.2.2 = b.2.2 := by unfold stkL; rw [hk]; rfl
 have a3 : heldN e.1 l.2 e.2.2.2.2.2 = l.2 - e.2.2.2.2.2 := by unfold heldN; rw [hk]; rfl
 have a4 : addSu e.1 g.2 e.2.2.2.2.2 = (g.2.1, g.2.2.1, g.2.2.2.1, g.2.2.2.2) := by unfold addSu; rw [hk]; rfl
 obtain ⟨⟨u1, u2, u3, u4⟩, u5⟩ := hw.sums g (List.mem_of_getElem? hg)
 have u5' : (g.2.1 ≤ mostS ∧ g.2.2.1 ≤ mostS ∧ g.2.2.2.1 ≤ mostS ∧ g.2.2.2.2 ≤ mostS) := by unfold okSu at u5; simpa using u5
 obtain ⟨u6, u7, u8, u9⟩ := u5'
 obtain ⟨v1, v2⟩ := hw.held l (List.mem_of_getElem? hl)
 have v4 : l.1.1 = e.2.2.1.1 := by
  rcases findI_cases nameL b.2.1 e.2.2.1.1 with ⟨h9, _⟩ | ⟨j, x, h9, h8, h7⟩
  ·omega
  ·have : j = k := by omega
   subst this
   rw [hl] at h8
   injection h8 with h8
   rw [h8]; exact h7
 rw [v4] at v2
 have ep : pieceE b e l g = if 0 = 0 then (if l.2 - e.2.2.2.2.2 < 0 ∨ ofL (b.2.2) e.2.2.1.1 < l.2 - e.2.2.2.2.2 then 9 else if okSu (g.2.1, g.2.2.1, g.2.2.2.1, g.2.2.2.2) then 0 else 2) else 0 := by unfold pieceE; rw [a1, a2, a3, a4]
 have eb : pieceB b e k l i g = (b.1.set i (g.1, g.2.1, g.2.2.1, g.2.2.2.1, g.2.2.2.2), b.2.1.set k (l.1, l.2 - e.2.2.2.2.2), b.2.2) := by unfold pieceB; rw [a2, a3, a4]
 rw [eb]
 have HO := fun (W : World) (v : Value) (hv : encLn.Row W 0 70 v (b.2.2)) => refOf_any v (b.2.2) e.2.2.1.1 W hv (hw.st)
 rw [if_pos rfl] at ep
 by_cases c1 : l.2 - e.2.2.2.2.2 < 0
 ·rw [if_pos (Or.inl c1)] at ep
  rw [ep, if_neg (by decide)]
  exact calls_base h.baseLe (dp_free_neg w B q b e k i l g ⟨h, hz, hw, he, hk, hkL, hl, hiG, hg, hn1, hn2⟩ c1)
 ·have c2 : ¬ (l.2 - e.2.2.2.2.2 < 0 ∨ ofL (b.2.2) e.2.2.1.1 < l.2 - e.2.2.2.2.2) := by omega
  rw [if_neg c2, if_pos (by unfold okSu; simp only [decide_eq_true u6, decide_eq_true u7, decide_eq_true u8, decide_eq_true u9]; rfl)] at ep
  rw [if_pos ep]
  exact dp_free_ok w B q b e k i l g _ ⟨h, hz, hw, he, hk, hkL, hl, hiG, hg, hn1, hn2⟩ HO (by omega) (by omega)
theorem refDo_any (w : World) (B q : Nat) (b : Bk) (e : En) (h : RefB w B q b) (hz : SzE e) (hw : WfB b) :
  Calls Tryz.prog 40 #[.pointer (some ⟨q, 0, none⟩), agE e] w fun r w' => r = .returned (.int .i64 (doB b e).2) ∧ RefB w' B q (doB b e).1 ∧ Turn B w w' := by
 by_cases he : entErr e = 0
 ·by_cases h1 : e.1 = kGoods
  ·exact rdo_goods w B q b e h hz hw he h1
  by_cases h2 : e.1 = kLot
  ·exact rdo_lot w B q b e h hz hw he h2
  rcases findI_cases nameL b.2.1 e.2.2.1.1 with ⟨h9, _⟩ | ⟨k, l, hkL, hl, _⟩
  ·rw [doB_none he h1 h2 (by omega)]
   exact calls_base h.baseLe (do_none w B q b e h hz hw he h1 h2 (by omega))
  ·obtain ⟨g0, hg0, hg1⟩ := hw.lots l (List.mem_of_getElem? hl)
   rcases findI_cases nameG b.1 l.1.2.1 with ⟨_, h8⟩ | ⟨i, g, hiG, hg, _⟩
   ·exact absurd hg1 (h8 g0 hg0)
   ·rcases kind_cases e.1 with hk | hk | (hk | hk) | (hk | hk) | hk | (hk | hk) | hk
    ·exact absurd hk h1
    ·exact absurd hk h2
    ·exact rdo_in w B q b e k i l g h hz hw he hk hkL hl hiG hg
    ·exact rdo_more w B q b e k i l g h hz hw he hk hkL hl hiG hg
    ·exact rdo_out w B q b e k i l g h hz hw he hk hkL hl hiG hg
    ·exact rdo_less w B q b e k i l g h hz hw he hk hkL hl hiG hg
    ·exact rdo_move w B q b e k i l g h hz hw he hk hkL hl hiG hg
    ·exact rdo_hold w B q b e k i l g h hz hw he hk hkL hl hiG hg
    ·exact rdo_free w B q b e k i l g h hz hw he hk hkL hl hiG hg
    ·have h0 := (entErr_own he).1
     unfold ownErr at h0
     rw [hk.kd] at h0
     simp at h0
 ·rw [doB_err he]
  exact calls_base h.baseLe (do_err w B q b e h hz he)
theorem fineR (w : World) : Calls Tryz.prog 66 #[] w fun r w' => r = .returned (.agg #[.int .i64 0, .int .i64 (-1)]) ∧ Below w.heap.size w w' := by
 go_enter Tryz.func66, Tryz.ntmps66
 go_wp2
 refine bodyPost_ret (v := .agg #[.int .i64 0, .int .i64 (-1)]) (by simp [results, Tryz.results66, go_sem]) rfl ⟨rfl, ?_⟩
 repeat (first | exact Below.refl _ _ | (refine Below.setCell ?_ (by (try simp); (try omega)) _) | (refine Below.alloc ?_ (by (try simp); (try omega)) _) | (refine Below.drew ?_))
theorem two_set {w : World} {f : Nat} {a b : Value} {T : TypeId} (h : w.heap[f]? = some (.cells #[a, b] T (0, 0))) (x y : Value) : ∃ W4 W5 : World, w.setCell ⟨f, 0, none⟩ x = W4 ∧ W4.setCell ⟨f, 1, none⟩ y = W5 ∧ (w.cell? ⟨f, 0, none⟩ = some a ∧ w.cell? ⟨f, 1, none⟩ = some b ∧ ∀ o, w.frozen? ⟨f, o, none⟩ = false) ∧ (W4.cell? ⟨f, 1, none⟩ = some b ∧ ∀ o, W4.frozen? ⟨f, o, none⟩ = false) ∧ W5.cell? ⟨f, 0, none⟩ = some x ∧ W5.cell? ⟨f, 1, none⟩ = some y ∧ (∀ g, g ≠ f → W5.heap[g]? = w.heap[g]?) ∧ ∀ B w0, B ≤ f → Below B w0 w → Below B w0 W5 := by
 have h4 := set_cell (cs' := #[x, b]) h 0 x rfl
 have h5 := set_cell (cs' := #[x, y]) h4 1 y rfl
 refine ⟨_, _, rfl, rfl, ⟨by rw [cell_of_heap h]; rfl, by rw [cell_of_heap h]; rfl, fun o => frozen_of_heap h o⟩, ⟨by rw [cell_of_heap h4]; rfl, fun o => frozen_of_heap h4 o⟩, by rw [cell_of_heap h5]; rfl, by rw [cell_of_heap h5]; rfl, fun g hg => ?_, fun B w0 hB hb => (hb.setCell (p := ⟨f, 0, none⟩) hB x).setCell (p := ⟨f, 1, none⟩) hB y⟩
 exact (Below.heap_setCell _ ⟨f, 1, none⟩ y g hg).trans (Below.heap_setCell _ ⟨f, 0, none⟩ x g hg)
theorem RefB.far {w w' : World} {B q f : Nat} {b : Bk} {cs : Array Value} (h : RefB w B q b) (hf : w.heap[f]? = some (.cells cs 62 (0, 0))) (hg : ∀ g, g ≠ f → w'.heap[g]? = w.heap[g]?) : RefB w' B q b := by
 obtain ⟨vG, vL, vS, k1, k2, k3, k4, k5⟩ := h
 exact ⟨vG, vL, vS, (hg q (block_ne k1 hf (by decide))).trans k1, k2.kept fun g e => hg g (k2.apart hf (by decide) g e), k3.kept fun g e => hg g (k3.apart hf (by decide) g e), k4.kept fun g e => hg g (k4.apart hf (by decide) g e), k5⟩
theorem RefB.new (w : World) : RefB (w.alloc (.cells #[.slice none 0 0, .slice none 0 0, .slice none 0 0] 88)) w.heap.size w.heap.size ([], [], []) :=
 ⟨_, _, _, heap_alloc_new w _, Enc.Row.nil _ _ _ _, Enc.Row.nil _ _ _ _, Enc.Row.nil _ _ _ _, Nat.le_refl _⟩
theorem refReplay_some (l : List En) (bq off cap : Nat) (w : World) (h : Ents w bq off l) (hz : ∀ e ∈ l, SzE e) (hn : l.length ≤ 1000) :
  Calls Tryz.prog 29 #[.slice (some ⟨bq, off, none⟩) l.length cap] w fun r w' => ((∀ j, j < l.length → errAt l j = 0) ∧ r = .returned (.tuple #[.pointer (some ⟨w.heap.size + 1, 0, none⟩), .agg #[.int .i64 0, .int .i64 (-1)]]) ∧ RefB w' (w.heap.size + 1) (w.heap.size + 1) (bkTo l l.length) ∨ ∃ k, k < l.length ∧ (∀ j, j < k → errAt l j = 0) ∧ errAt l k ≠ 0 ∧ r = .returned (.tuple #[.pointer none, .agg #[.int .i64 (errAt l k), .int .i64 k]])) ∧ Below w.heap.size w w' := by
 have hW1 : Below w.heap.size w (w.alloc (.cells #[.int .i64 0, .int .i64 0] 62)) := (Below.refl _ w).alloc (Nat.le_refl _) _
 have n1 := heap_alloc_new w (.cells #[.int .i64 0, .int .i64 0] 62)
 have s1 : (w.alloc (.cells #[.int .i64 0, .int .i64 0] 62)).heap.size = w.heap.size + 1 := by simp
 have nB := RefB.new (w.alloc (.cells #[.int .i64 0, .int .i64 0] 62))
 have hW2 : Below (w.heap.size + 1) (w.alloc (.cells #[.int .i64 0, .int .i64 0] 62)) ((w.alloc (.cells #[.int .i64 0, .int .i64 0] 62)).alloc (.cells #[.slice none 0 0, .slice none 0 0, .slice none 0 0] 88)) := (Below.refl _ _).alloc (by rw [s1]; exact Nat.le_refl _) _
 rw [s1] at nB
 have HE : Hid (Ents w bq off l) := h
 have HZ : Hid (∀ e ∈ l, SzE e) := hz
 have HW1 : Hid (Below _ _ _) := hW1
 have HN1 : Hid ((w.alloc (.cells #[.int .i64 0, .int .i64 0] 62)).heap[w.heap.size]? = _) := n1
 have HNB : Hid (RefB _ _ _ _) := nB
 have HW2 : Hid (Below _ _ _) := hW2
 generalize hln : l.length = ln at *
 have HN : Hid (ln = l.length) := hln.symm
 clear h hz hW1 n1 nB hW2 hln s1
 go_enter Tryz.func29, Tryz.ntmps29
 go_wp2
 generalize hU1 : w.alloc (.cells #[.int .i64 0, .int .i64 0] 62) = U1 at *
 generalize hU2 : U1.alloc (.cells #[.slice none 0 0, .slice none 0 0, .slice none 0 0] 88) = U2 at *
 clear hU1 hU2
 go_loopw [5] (fun i wr => ∃ k : Nat, k ≤ ln ∧ i = .int .i64 k ∧ RefB wr (w.heap.size + 1) (w.heap.size + 1) (bkTo l k) ∧ Below (w.heap.size + 1) U1 wr ∧ ∀ j, j < k → errAt l j = 0) (fun i _ => ln - (RowKit.intOf i).toNat)
 case atStart => exact ⟨0, Nat.zero_le _, rfl, HNB.out, HW2.out, fun j hj => absurd hj (Nat.not_lt_zero _)⟩
 case round =>
  obtain ⟨k, hk, rfl, href, hwr, hno⟩ := hrel
  have HNo : Hid (∀ j, j < k → errAt l j = 0) := hno
  have HRf : Hid (RefB _ _ _ _) := href
  have HWr : Hid (Below _ _ _) := hwr
  have HBw : Hid (Below w.heap.size w wr) := HW1.out.trans (hwr.mono (Nat.le_succ _))
  have HF : Hid (wr.heap[w.heap.size]? = some (.cells #[.int .i64 0, .int .i64 0] 62 (0, 0))) := (hwr.block w.heap.size (Nat.lt_succ_self _)).trans HN1.out
  clear hno href hwr
  by_cases hlt : k < ln
  ·have hkm : k < l.length := by rw [← HN.out]; exact hlt
   obtain ⟨e, he⟩ : ∃ e, l[k]? = some e := ⟨_, List.getElem?_eq_getElem hkm⟩
   have hEr := HE.out.below HE.out.lt HBw.out
   obtain ⟨c0, c1, c2, c3, c4, c5, c6, c7, c8, c9, c10, c11, c12, c13⟩ := hEr.at_ k e he
   have hD := refDo_any wr (w.heap.size + 1) (w.heap.size + 1) (bkTo l k) e HRf.out (HZ.out e (List.mem_of_getElem? he)) (bkTo_ok l k).wf
   rw [← errAt_eq he, ← bkTo_succ he] at hD
   have HD : Hid (Calls Tryz.prog 40 _ _ _) := hD
   have HLe : Hid (l[k]? = some e) := he
   clear he hkm hEr hD
   obtain ⟨ak, ⟨agc, agp⟩, ⟨ali, alc, alu, alk⟩, ⟨afz, afr, afb⟩, ⟨atz, atr, atb⟩, an⟩ := e
   unfold agE at *
   simp only at c0 c1 c2 c3 c4 c5 c6 c7 c8 c9 c10 c11 c12 c13 HD
   by_cases h0 : errAt l k = 0
   ·rw [h0] at HD
    go_wp2_with (go_at_call 40; refine HD.out.mono ?_; rintro r w3 ⟨rfl, hr3, ⟨hb3, _⟩⟩)
    go_roundw
    case rel => exact ⟨k + 1, by omega, by go_num, hr3, HWr.out.trans (hb3.mono (Nat.le_refl _)), fun j hj => by
     rcases Nat.lt_or_ge j k with h9 | h9
     ·exact HNo.out j h9
     ·have : j = k := by omega
      rw [this]; exact h0⟩
    case measure => simp [RowKit.intOf]; omega
   ·have hp : (0 : Int) < (errAt l k : Int) := by omega
    have HK : Hid (errAt l k ≠ 0) := h0
    generalize hEE : errAt l k = E at *
    have HEE : Hid (errAt l k = E) := hEE
    clear hEE h0
    go_wp2_with (go_at_call 40; refine HD.out.mono ?_; rintro r w3 ⟨rfl, hr3, ⟨hb3, _⟩⟩; obtain ⟨W4, W5, e4, e5, ⟨t0, t1, tf⟩, ⟨t2, tg⟩, t3, t4, tfar, tb⟩ := two_set ((hb3.block w.heap.size (Nat.lt_succ_self _)).trans HF.out) (.int .i64 (E : Int)) (.int .i64 (k : Int)); have HT : Hid (∀ B w0, B ≤ w.heap.size → Below B w0 w3 → Below B w0 W5) := tb; have HB3 : Hid (Below _ _ _) := hb3; clear tfar tb hb3)
    refine bodyPost_ret (v := .tuple #[.pointer none, .agg #[.int .i64 (E : Int), .int .i64 k]]) (by simp [results, Tryz.results29, go_sem, t3, t4]) rfl ⟨Or.inr ⟨k, by omega, HNo.out, by rw [HEE.out]; exact HK.out, by rw [HEE.out]⟩, ?_⟩
    exact HT.out _ _ (Nat.le_refl _) (HBw.out.trans (HB3.out.mono (Nat.le_succ _)))
  ·have hkl : k = ln := by omega
   have HKl : Hid (k = l.length) := hkl.trans HN.out
   clear hkl
   go_wp2_with (go_at_call 66; refine (fineR _).mono ?_; rintro r w3 ⟨rfl, hb3⟩; have HR3 : Hid (RefB _ _ _ _) := HRf.out.below hb3; have hf3 := (hb3.block w.heap.size (Array.getElem?_eq_some_iff.1 HF.out).1).trans HF.out; have HF3 : Hid (w3.heap[w.heap.size]? = _) := hf3; obtain ⟨W4, W5, e4, e5, ⟨t0, t1, tf⟩, ⟨t2, tg⟩, t3, t4, tfar, tb⟩ := two_set hf3 (.int .i64 0) (.int .i64 (-1)); have HT : Hid (∀ B w0, B ≤ w.heap.size → Below B w0 w3 → Below B w0 W5) := tb; have HFar : Hid (∀ g, g ≠ w.heap.size → W5.heap[g]? = w3.heap[g]?) := tfar; have HB3 : Hid (Below _ _ _) := hb3; clear tfar tb hb3 hf3)
   refine bodyPost_ret (v := .tuple #[.pointer (some ⟨w.heap.size + 1, 0, none⟩), .agg #[.int .i64 0, .int .i64 (-1)]]) (by simp [results, Tryz.results29, go_sem, t3, t4]) rfl ⟨Or.inl ⟨fun j hj => HNo.out j (by rw [HKl.out, ← HN.out]; exact hj), rfl, ?_⟩, ?_⟩
   ·have := HR3.out.far HF3.out HFar.out
    rw [HKl.out, ← HN.out] at this
    exact this
   ·exact HT.out _ _ (Nat.le_refl _) (HBw.out.trans (HB3.out.mono HBw.out.size))
theorem refLots_none (w : World) (B q : Nat) (b : Bk) (c : ByteArray) (h : RefBln w B q b) :
  Calls Tryz.prog 64 #[.pointer (some ⟨q, 0, none⟩), .string c] w fun r w' => ∃ v, r = .returned v ∧ encLo.Row w' w.heap.size 26 v (lotsL c b.2.1) ∧ Below w.heap.size w w' := by
 obtain ⟨h0, vG, vS, k1, k3, k4, k5⟩ := h
 have s1 : w.cell? ⟨q, 1, none⟩ = some (.slice none 0 0) := by rw [cell_of_heap k1]; rfl
 have HR : Hid (encLo.Row w w.heap.size 26 (.slice none 0 0) (lotsL c b.2.1)) := by
  show Enc.Row _ _ _ _ _ _
  rw [h0]; exact Enc.Row.nil _ _ _ _
 clear h0 k1 k3 k4 k5
 go_enter Tryz.func64, Tryz.ntmps64
 go_wp2
 refine wp_loop_rounds 1 ?_
 rw [rounds_succ]
 go_wp2
 go_ret
 exact ⟨_, rfl, HR.out, Below.refl _ _⟩
theorem refLots_any (w : World) (B q : Nat) (b : Bk) (c : ByteArray) (h : RefB w B q b) (hw : WfB b) :
  Calls Tryz.prog 64 #[.pointer (some ⟨q, 0, none⟩), .string c] w fun r w' => ∃ v, r = .returned v ∧ encLo.Row w' w.heap.size 26 v (lotsL c b.2.1) ∧ Below w.heap.size w w' := by
 rcases h.casesL with h | h
 ·exact refLots_some w B q b c h hw
 ·exact refLots_none w B q b c h
end Go.Proofs.YteomomeigbfeoaaGreatDoor
