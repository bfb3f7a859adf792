/-
 What the program's Book.Do does, whatever the entry: the book behind it, and the error; no old block but the book's own is turned.
-/
import Derived.Test.YtefkchmahcjleaaGreatDoorJz23
import Derived.Test.YtefkchmahcjleaaGreatDoorQTurnD
import Derived.Test.YtefkchmahcjleaaGreatDoorJz18
import Derived.Test.YtefkchmahcjleaaGreatDoorJz14
import Derived.Test.YtefkchmahcjleaaGreatDoorJz20
import Derived.Test.YtefkchmahcjleaaGreatDoorQAlM
import Derived.Test.YtefkchmahcjleaaGreatDoorJz6
import Derived.Test.YtefkchmahcjleaaGreatDoorGenK
import Derived.Shelf.SlSortCmp.NoneTotal
import Derived.Test.YtefkchmahcjleaaGreatDoorJz19
import Derived.Test.YtefkchmahcjleaaGreatDoorJz11
import Derived.Laws.StructEq
set_option maxRecDepth 100000
set_option maxHeartbeats 16000000
namespace Go.Proofs.YtefkchmahcjleaaGreatDoor
open Go.RowKit Go.Lib Go.Sort
theorem turn_any (w : World) (s : Nat → Addr) (B : Nat) (x : Bl) (b : Bk) (e : En) (h : IsBk w B x b) (hz : SzE e) (hs : Bs w s) (he : entErr e = 0) (h1 : e.1 ≠ kGoods) (h2 : e.1 ≠ kLot) :
  Calls Tryz.prog 37 #[.pointer (some ⟨x.p, 0, none⟩), agE e] w fun r w' => r = .returned (errP s (doB b e).2) ∧ IsBk w' B x (doB b e).1 ∧ Off x.all w w' := by
 rcases findI_cases nameL b.2.1 e.2.2.1.1 with ⟨h9, hno⟩ | ⟨k, l, hkL, hl, hid⟩
 ·rw [doB_none he h1 h2 (by omega)]
  exact turn_none w s B x b e h hz hs hno
 ·obtain ⟨g0, hg0, hg1⟩ := h.ok.wf.lots l (List.mem_of_getElem? hl)
  rcases findI_cases nameG b.1 l.1.2.1 with ⟨_, h8⟩ | ⟨i, g, hiG, hg, hgn⟩
  ·exact absurd hg1 (h8 g0 hg0)
  rw [doB_at he h1 h2 hkL hl hiG hg]
  by_cases hc : stkE e b.2.2 = 0
  ·by_cases hh : heldN e.1 l.2 e.2.2.2.2.2 < 0
   ·have ep : pieceE b e l g = 9 := by unfold pieceE; rw [if_pos hc, if_pos (Or.inl hh)]
    rw [ep, if_neg (by decide)]
    exact turn_neg w s B x b e h hz hs k i l g hl hid hg hgn he h1 h2 hc hh
   by_cases ho : ofL (stkL e b.2.2) e.2.2.1.1 < heldN e.1 l.2 e.2.2.2.2.2
   ·have ep : pieceE b e l g = 9 := by unfold pieceE; rw [if_pos hc, if_pos (Or.inr ho)]
    rw [ep, if_neg (by decide)]
    exact turn_short w s B x b e h hz hs k i l g hl hid hg hgn he h1 h2 hc (by omega) ho
   cases hu : okSu (addSu e.1 g.2 e.2.2.2.2.2) with
   | false =>
    have ep : pieceE b e l g = 2 := by unfold pieceE; rw [if_pos hc, if_neg (by omega), hu]; rfl
    rw [ep, if_neg (by decide)]
    exact turn_bound w s B x b e h hz hs k i l g hl hid hg hgn he h1 h2 hc (by omega) (by omega) hu
   | true =>
    have ep : pieceE b e l g = 0 := by unfold pieceE; rw [if_pos hc, if_neg (by omega), hu]; rfl
    rw [if_pos ep]
    exact turn_ok w s B x b e h hz hs k i l g hl hid hg hgn he h1 h2 hc (by omega) (by omega) hu
  ·have ep : pieceE b e l g = stkE e b.2.2 := by unfold pieceE; rw [if_neg hc]
   rw [ep, if_neg hc]
   exact turn_stk w s B x b e h hz hs k i l g hl hid hg hgn he h1 h2 hc
theorem bdo_err (w : World) (s : Nat → Addr) (B : Nat) (x : Bl) (b : Bk) (e : En) (h : IsBk w B x b) (hz : SzE e) (hs : Bs w s) (he : entErr e ≠ 0) :
  Calls Tryz.prog 11 #[.pointer (some ⟨x.p, 0, none⟩), agE e] w fun r w' => r = .returned (errP s (entErr e)) ∧ IsBk w' B x b ∧ Off x.all w w' := by
 have hE := BlkE.new w e
 have hb1 : Below w.heap.size w (w.alloc (celE e)) := (Below.refl _ w).alloc (Nat.le_refl _) _
 have hC := echeck_any e (w.alloc (celE e)) s hz (hs.below hb1).es
 rw [errP_pos s he] at hC ⊢
 generalize s (entErr e - 1) = ad at *
 obtain ⟨ps, bs, h⟩ := h
 obtain ⟨_, _, _, _, p4, _⟩ := (h.all hb1).cells
 obtain ⟨t0, t1, t2, t3, t4, t5, t6, t7, t8, t9, t10, t11, t12, t13⟩ := hE.at
 have HF : Hid (∀ W, Below w.heap.size w W → IsBk W B x b ∧ Off x.all w W) := fun W hb => ⟨⟨ps, bs, h.all hb⟩, Off.of_below hb⟩
 have HB : Hid (Below _ _ _) := hb1
 have HC : Hid (Calls Tryz.prog 34 _ _ _) := hC
 clear h hz hs he hE hb1 hC
 obtain ⟨ak, ⟨agc, agp⟩, ⟨ali, alc, alu, alk⟩, ⟨afz, afr, afb⟩, ⟨atz, atr, atb⟩, an⟩ := e
 unfold agE celE at *
 simp only at *
 go_enter Tryz.func11, Tryz.ntmps11
 go_wp2_with (go_at_call 34; refine HC.out.mono ?_; rintro r w1 ⟨rfl, hb2⟩)
 go_ret
 exact ⟨rfl, HF.out _ (HB.out.trans (hb2.mono HB.out.size))⟩
theorem bdo_goods (w : World) (s : Nat → Addr) (B : Nat) (x : Bl) (b : Bk) (e : En) (h : IsBk w B x b) (hz : SzE e) (hs : Bs w s) (he : entErr e = 0) (hk : e.1 = kGoods) :
  Calls Tryz.prog 11 #[.pointer (some ⟨x.p, 0, none⟩), agE e] w fun r w' => r = .returned (errP s (doB b e).2) ∧ IsBk w' B x (doB b e).1 ∧ Off x.all w w' := by
 have hE := BlkE.new w e
 have hb1 : Below w.heap.size w (w.alloc (celE e)) := (Below.refl _ w).alloc (Nat.le_refl _) _
 have hC := echeck_any e (w.alloc (celE e)) s hz (hs.below hb1).es
 rw [he, errP_zero] at hC
 have HD : Hid (∀ W, Below w.heap.size w W → Calls Tryz.prog 35 #[.pointer (some ⟨x.p, 0, none⟩), agG e.2.1] W fun r w' => r = .returned (errP s (doB b e).2) ∧ IsBk w' B x (doB b e).1 ∧ Off x.all w w') := fun W hb => by
  have := addGoods_any e.2.1 W s B x b (h.below hb) hz.gc (hs.below hb)
  refine this.mono fun r w' ⟨r1, r2, r3⟩ => ?_
  rw [doB_goods he hk]
  by_cases h0 : goodsE b e.2.1 = 0
  ·rw [if_pos h0] at r2 ⊢
   rw [h0] at r1
   exact ⟨r1, r2, (Off.of_below hb).trans r3⟩
  ·rw [if_neg h0] at r2 ⊢
   exact ⟨r1, r2, (Off.of_below hb).trans r3⟩
 obtain ⟨ps, bs, h⟩ := h
 obtain ⟨_, _, _, _, p4, _⟩ := (h.all hb1).cells
 have x1 : (e.1.toList == kGoods.data.toList) = true := same_wordR hk
 obtain ⟨t0, t1, t2, t3, t4, t5, t6, t7, t8, t9, t10, t11, t12, t13⟩ := hE.at
 have HE : Hid (BlkE _ _ _) := hE
 have HB : Hid (Below _ _ _) := hb1
 have HC : Hid (Calls Tryz.prog 34 _ _ _) := hC
 generalize doB b e = D at *
 clear h hz hs he hE hb1 hC hk
 obtain ⟨ak, ⟨agc, agp⟩, ⟨ali, alc, alu, alk⟩, ⟨afz, afr, afb⟩, ⟨atz, atr, atb⟩, an⟩ := e
 unfold agE celE agG at *
 simp only at *
 go_enter Tryz.func11, Tryz.ntmps11
 go_wp2_with (first
  | (go_at_call 34; refine HC.out.mono ?_; rintro r w1 ⟨rfl, hb2⟩; obtain ⟨u0, u1, u2, u3, u4, u5, u6, u7, u8, u9, u10, u11, u12, u13⟩ := (HE.out.below hb2).at; (try simp only at u0 u1 u2 u3 u4 u5 u6 u7 u8 u9 u10 u11 u12 u13); have hb3 : Hid (Below _ _ _) := HB.out.trans (hb2.mono HB.out.size); clear hb2)
  | (go_at_call 35; refine (HD.out _ hb3.out).mono ?_; rintro r w2 ⟨rfl, hr⟩))
 go_ret
 exact ⟨rfl, hr⟩
theorem bdo_lot (w : World) (s : Nat → Addr) (B : Nat) (x : Bl) (b : Bk) (e : En) (h : IsBk w B x b) (hz : SzE e) (hs : Bs w s) (he : entErr e = 0) (hk : e.1 = kLot) :
  Calls Tryz.prog 11 #[.pointer (some ⟨x.p, 0, none⟩), agE e] w fun r w' => r = .returned (errP s (doB b e).2) ∧ IsBk w' B x (doB b e).1 ∧ Off x.all w w' := by
 have hE := BlkE.new w e
 have hb1 : Below w.heap.size w (w.alloc (celE e)) := (Below.refl _ w).alloc (Nat.le_refl _) _
 have hC := echeck_any e (w.alloc (celE e)) s hz (hs.below hb1).es
 rw [he, errP_zero] at hC
 have HD : Hid (∀ W, Below w.heap.size w W → Calls Tryz.prog 36 #[.pointer (some ⟨x.p, 0, none⟩), agQ e.2.2.1] W fun r w' => r = .returned (errP s (doB b e).2) ∧ IsBk w' B x (doB b e).1 ∧ Off x.all w w') := fun W hb => by
  have := addLot_any e.2.2.1 W s B x b (h.below hb) hz.li hz.lc (hs.below hb)
  refine this.mono fun r w' ⟨r1, r2, r3⟩ => ?_
  rw [doB_lot he hk]
  by_cases h0 : lotBE b e.2.2.1 = 0
  ·rw [if_pos h0] at r2 ⊢
   rw [h0] at r1
   exact ⟨r1, r2, (Off.of_below hb).trans r3⟩
  ·rw [if_neg h0] at r2 ⊢
   exact ⟨r1, r2, (Off.of_below hb).trans r3⟩
 obtain ⟨ps, bs, h⟩ := h
 obtain ⟨_, _, _, _, p4, _⟩ := (h.all hb1).cells
 have x0 : (e.1.toList == kGoods.data.toList) = false := other_word (by rw [hk]; decide)
 have x1 : (e.1.toList == kLot.data.toList) = true := same_wordR hk
 obtain ⟨t0, t1, t2, t3, t4, t5, t6, t7, t8, t9, t10, t11, t12, t13⟩ := hE.at
 have HE : Hid (BlkE _ _ _) := hE
 have HB : Hid (Below _ _ _) := hb1
 have HC : Hid (Calls Tryz.prog 34 _ _ _) := hC
 generalize doB b e = D at *
 clear h hz hs he hE hb1 hC hk
 obtain ⟨ak, ⟨agc, agp⟩, ⟨ali, alc, alu, alk⟩, ⟨afz, afr, afb⟩, ⟨atz, atr, atb⟩, an⟩ := e
 unfold agE celE agQ at *
 simp only at *
 go_enter Tryz.func11, Tryz.ntmps11
 go_wp2_with (first
  | (go_at_call 34; refine HC.out.mono ?_; rintro r w1 ⟨rfl, hb2⟩; obtain ⟨u0, u1, u2, u3, u4, u5, u6, u7, u8, u9, u10, u11, u12, u13⟩ := (HE.out.below hb2).at; (try simp only at u0 u1 u2 u3 u4 u5 u6 u7 u8 u9 u10 u11 u12 u13); have hb3 : Hid (Below _ _ _) := HB.out.trans (hb2.mono HB.out.size); clear hb2)
  | (go_at_call 36; refine (HD.out _ hb3.out).mono ?_; rintro r w2 ⟨rfl, hr⟩))
 go_ret
 exact ⟨rfl, hr⟩
theorem bdo_turn (w : World) (s : Nat → Addr) (B : Nat) (x : Bl) (b : Bk) (e : En) (h : IsBk w B x b) (hz : SzE e) (hs : Bs w s) (he : entErr e = 0) (h1 : e.1 ≠ kGoods) (h2 : e.1 ≠ kLot) :
  Calls Tryz.prog 11 #[.pointer (some ⟨x.p, 0, none⟩), agE e] w fun r w' => r = .returned (errP s (doB b e).2) ∧ IsBk w' B x (doB b e).1 ∧ Off x.all w w' := by
 have hE := BlkE.new w e
 have hb1 : Below w.heap.size w (w.alloc (celE e)) := (Below.refl _ w).alloc (Nat.le_refl _) _
 have hC := echeck_any e (w.alloc (celE e)) s hz (hs.below hb1).es
 rw [he, errP_zero] at hC
 have HD : Hid (∀ W, Below w.heap.size w W → Calls Tryz.prog 37 #[.pointer (some ⟨x.p, 0, none⟩), agE e] W fun r w' => r = .returned (errP s (doB b e).2) ∧ IsBk w' B x (doB b e).1 ∧ Off x.all w w') := fun W hb =>
  (turn_any W s B x b e (h.below hb) hz (hs.below hb) he h1 h2).mono fun r w' ⟨r1, r2, r3⟩ => ⟨r1, r2, (Off.of_below hb).trans r3⟩
 obtain ⟨ps, bs, h⟩ := h
 obtain ⟨_, _, _, _, p4, _⟩ := (h.all hb1).cells
 have x0 : (e.1.toList == kGoods.data.toList) = false := other_word h1
 have x1 : (e.1.toList == kLot.data.toList) = false := other_word h2
 obtain ⟨t0, t1, t2, t3, t4, t5, t6, t7, t8, t9, t10, t11, t12, t13⟩ := hE.at
 have HE : Hid (BlkE _ _ _) := hE
 have HB : Hid (Below _ _ _) := hb1
 have HC : Hid (Calls Tryz.prog 34 _ _ _) := hC
 generalize doB b e = D at *
 clear h hz hs he hE hb1 hC h1 h2
 obtain ⟨ak, ⟨agc, agp⟩, ⟨ali, alc, alu, alk⟩, ⟨afz, afr, afb⟩, ⟨atz, atr, atb⟩, an⟩ := e
 unfold agE celE at *
 simp only at *
 go_enter Tryz.func11, Tryz.ntmps11
 go_wp2_with (first
  | (go_at_call 34; refine HC.out.mono ?_; rintro r w1 ⟨rfl, hb2⟩; obtain ⟨u0, u1, u2, u3, u4, u5, u6, u7, u8, u9, u10, u11, u12, u13⟩ := (HE.out.below hb2).at; (try simp only at u0 u1 u2 u3 u4 u5 u6 u7 u8 u9 u10 u11 u12 u13); have hb3 : Hid (Below _ _ _) := HB.out.trans (hb2.mono HB.out.size); clear hb2)
  | (go_at_call 37; refine (HD.out _ hb3.out).mono ?_; rintro r w2 ⟨rfl, hr⟩))
 go_ret
 exact ⟨rfl, hr⟩
theorem bdo_any (w : World) (s : Nat → Addr) (B : Nat) (x : Bl) (b : Bk) (e : En) (h : IsBk w B x b) (hz : SzE e) (hs : Bs w s) :
  Calls Tryz.prog 11 #[.pointer (some ⟨x.p, 0, none⟩), agE e] w fun r w' => r = .returned (errP s (doB b e).2) ∧ IsBk w' B x (doB b e).1 ∧ Off x.all w w' := by
 by_cases he : entErr e = 0
 ·by_cases h1 : e.1 = kGoods
  ·exact bdo_goods w s B x b e h hz hs he h1
  by_cases h2 : e.1 = kLot
  ·exact bdo_lot w s B x b e h hz hs he h2
  exact bdo_turn w s B x b e h hz hs he h1 h2
 ·rw [doB_err he]
  exact bdo_err w s B x b e h hz hs he
end Go.Proofs.YtefkchmahcjleaaGreatDoor
namespace Go.Proofs.YtefkchmahcjleaaGreatDoor
open Go.RowKit Go.Shelf Go.Lib Go.Sort
end Go.Proofs.YtefkchmahcjleaaGreatDoor
namespace Go.Proofs.YtefkchmahcjleaaGreatDoor
open Go.RowKit Go.Lib Go.Sort
theorem perm_map_consF {α : Type} {f : α → Ent} {t : List α} {x : Ent} {T : List Ent} (h : (t.map f).Perm (x :: T)) : ∃ l t', x = f l ∧ t.Perm (l :: t') ∧ T.Perm (t'.map f) := by
 obtain ⟨l, hl, e⟩ := List.mem_map.1 (h.mem_iff.2 (List.mem_cons_self ..))
 obtain ⟨s1, s2, rfl⟩ := List.append_of_mem hl
 have h1 : (s1 ++ l :: s2).Perm (l :: (s1 ++ s2)) := List.perm_middle
 refine ⟨l, s1 ++ s2, e.symm, h1, ?_⟩
 have h2 := (h1.map f).symm.trans h
 rw [List.map_cons, e] at h2
 exact h2.cons_inv.symm
section
variable {P : Program} {k : TypeId} {w : World} {ops : Array Oper} {rest : List Oper} {o : Oper} {a : Act} {Q : Exit → Act → World → Prop}
theorem wpQ_next (hg : o.guard = none) (it : Operand) (hop : o.op = Op.next it false) (b r : Nat) (L : List Ent) (t : List Lh) (hit : a.eval it = .pointer (some ⟨r, 0, none⟩)) (h : RangeL P k w b r L (t.map entL))
  (hDone : t = [] → wpList P ops Q rest (a.put o.dst (.tuple #[.bool false])) w)
  (hMore : ∀ (zi zc : ByteArray) (zu zk zh : Int) t' w', t.Perm (((zi, zc, zu, zk), zh) :: t') → RangeL P k w' b r L (t'.map entL) → w.grownBy w' (some r) → w'.heap.size = w.heap.size → (Instr.entry (.pointer (some ⟨r, 0, none⟩))).run P w' = .ok (.tuple #[.string zi, .agg #[.string zi, .string zc, .int .i64 zu, .int .i64 zk]]) w' →
   wpList P ops Q rest (a.put o.dst (.tuple #[.bool true, .string zi, .agg #[.string zi, .string zc, .int .i64 zu, .int .i64 zk]])) w') : wpList P ops Q (o :: rest) a w := by
 refine wpL_next hg it hop k b r L (t.map entL) hit h (fun e => hDone (by simpa using e)) fun x T' w' hp hrg hgr hsz hen => ?_
 obtain ⟨l, t', rfl, h1, h2⟩ := perm_map_consF hp
 obtain ⟨⟨zi, zc, zu, zk⟩, zh⟩ := l
 exact hMore zi zc zu zk zh t' w' h1 (hrg.perm h2) hgr hsz hen
end
end Go.Proofs.YtefkchmahcjleaaGreatDoor
namespace Go.Proofs.YtefkchmahcjleaaGreatDoor
open Go.RowKit Go.Lib Go.Sort Go.Shelf
def encLq : Enc Lo where
 k := 4
 enc l := encL l
 len _ := rfl
 one l v hv := encL_one l v hv
def lotsOf (m : List Lh) (c : ByteArray) : List Lo := (m.filter fun l => decide (l.1.2.1 = c)).map (·.1)
theorem lotsOf_app (m m' : List Lh) (c : ByteArray) : lotsOf (m ++ m') c = lotsOf m c ++ lotsOf m' c := by unfold lotsOf; simp
theorem lotsOf_hit {l : Lh} {c : ByteArray} (h : l.1.2.1 = c) : lotsOf [l] c = [l.1] := by unfold lotsOf; simp [h]
theorem lotsOf_miss {l : Lh} {c : ByteArray} (h : l.1.2.1 ≠ c) : lotsOf [l] c = [] := by unfold lotsOf; simp [h]
theorem lotsOf_perm {m m' : List Lh} (h : m.Perm m') (c : ByteArray) : (lotsOf m c).Perm (lotsOf m' c) := (h.filter _).map _
theorem lotsOf_le (m : List Lh) (c : ByteArray) : (lotsOf m c).length ≤ m.length := by unfold lotsOf; simpa using List.length_filter_le _ _
theorem flatLo_array (m : List Lo) : (flatK encL 4 m.toArray).toList = encLq.flat m := by
 apply List.ext_getElem?
 intro j
 by_cases hj : j < m.length * 4
 ·have hi : j / 4 < m.length := by omega
  have h1 : m[j / 4]? = some m[j / 4] := List.getElem?_eq_getElem hi
  have h2 := encLq.flat_get (j % 4) h1 (show j % 4 < 4 by omega)
  rw [show j / 4 * encLq.k + j % 4 = j by show j / 4 * 4 + j % 4 = j; omega] at h2
  rw [h2, Array.getElem?_toList, Array.getElem?_eq_getElem (by rw [size_flatK]; simpa using hj)]
  have h3 := get_flatK encL 4 m.toArray j (by simpa using hj)
  rw [getElem!_pos _ j (by rw [size_flatK]; simpa using hj)] at h3
  rw [h3, getElem!_pos m.toArray (j / 4) (by simpa using hi), List.getElem_toArray, getElem!_pos _ (j % 4) (by rw [encL_len]; omega), List.getElem?_eq_getElem (by show _ < (encL _).length; rw [encL_len]; omega)]
  rfl
 ·rw [List.getElem?_eq_none (l := encLq.flat m) (by rw [encLq.flat_len]; show m.length * 4 ≤ j; omega), List.getElem?_eq_none (by rw [Array.length_toList, size_flatK]; simpa using hj)]
theorem own_rowLo {w : World} {base g cap : Nat} {m : List Lo} (h : w.ownsRow base 40 4 (.slice (some ⟨g, 0, none⟩) m.length cap) m.length (encLq.flat m)) : RowL w g 0 m.toArray := by
 intro j hj
 have hj2 : j < m.length * 4 := by simpa using hj
 have hj3 : j < (flatK encL 4 m.toArray).size := by rw [size_flatK]; exact hj
 have := h.cells (g := g) rfl j ((flatK encL 4 m.toArray)[j]!) (by rw [← flatLo_array, Array.getElem?_toList, Array.getElem?_eq_getElem hj3, getElem!_pos _ j hj3])
 rw [Go.WideShapes.add_plain] at this
 simpa using this
def LotsAt (w : World) (B : Nat) (v : Value) (d : Array Lo) : Prop := (v = .slice none 0 0 ∧ d = #[]) ∨ ∃ g cap, v = .slice (some ⟨g, 0, none⟩) d.size cap ∧ B ≤ g ∧ RowL w g 0 d
theorem LotsAt.below {w w' : World} {B : Nat} {v : Value} {d : Array Lo} (h : LotsAt w B v d) (hb : Below w.heap.size w w') : LotsAt w' B v d := by
 rcases h with h | ⟨g, cap, h1, h2, h3⟩
 ·exact Or.inl h
 ·exact Or.inr ⟨g, cap, h1, h2, h3.below hb⟩
theorem blots_any (c : ByteArray) (w : World) (B : Nat) (x : Bl) (b : Bk) (h : IsBk w B x b) (h59 : b.2.1.length ≤ 59) :
  Calls Tryz.prog 68 #[.pointer (some ⟨x.p, 0, none⟩), .string c] w fun e w' => ∃ v d, e = .returned v ∧ LotsAt w' w.heap.size v d ∧ d.toList.Perm (lotsOf b.2.1 c) ∧ SortedIn soonL 0 d.size d ∧ Below w.heap.size w w' := by
 obtain ⟨i0, hi, hz0, hz1, hz2⟩ := info_parts Tryz.infoLo
 have hW := whole_any w B x b h
 obtain ⟨ps, bs, h⟩ := h
 obtain ⟨_, _, p2, _, _, _⟩ := h.cells
 have hm := h.L
 have hlt := h.lts
 have HWh : Hid (Calls Tryz.prog 23 _ _ _) := hW
 have H59 : Hid (b.2.1.length ≤ 59) := h59
 clear h hW h59
 go_enter Tryz.func68, Tryz.ntmps68
 go_wp2_with (first
  | (go_at_call 23; refine HWh.out.mono ?_; rintro e w1 ⟨rfl, hw⟩; have hw' := hw.symm; subst hw')
  | (at_range; refine wpL_range rfl _ 73 rfl 9 40 Tryz.underlying73 x.l (b.2.1.map entL) rfl hm ?_; intro w0 hrg0 hg0 hs0))
 go_frame
 have hb0 : Below w.heap.size w w0 := ⟨hg0.os, hg0.tape, hg0.output, hg0.size, fun k hk => hg0.block k hk (by simp)⟩
 have hz00 : w.heap.size < w0.heap.size := by omega
 have HL : Hid (x.l < w.heap.size) := hlt.2.2.2.1
 clear hg0 hs0 hm hlt
 go_loopw [5] (fun s wr => ∃ d t : List Lh, (d ++ t).Perm b.2.1 ∧ wr.ownsRow (w.heap.size + 1) 40 4 s (lotsOf d c).length (encLq.flat (lotsOf d c)) ∧ RangeL Tryz.prog 9 wr x.l w.heap.size (b.2.1.map entL) (t.map entL) ∧ Below w.heap.size w wr) (fun _ wr => wr.rangeLeft x.l w.heap.size)
 case atStart => exact ⟨[], b.2.1, List.Perm.refl _, World.ownsRow_nil _ _ _ _, hrg0, hb0⟩
 case round =>
  obtain ⟨d, t, hp, hown, hrg, hb⟩ := hrel
  have hlt9 := hrg.lt
  have hdl : (lotsOf d c).length ≤ 59 := by have h1 := lotsOf_le d c; have h2 := hp.length_eq; have := H59.out; simp at h2; omega
  go_wp2_with (at_next; refine wpQ_next rfl _ rfl x.l w.heap.size _ t rfl hrg ?_ ?_)
  ·intro ht
   subst ht
   have hpd : d.Perm b.2.1 := by simpa using hp
   have HP : Hid ((lotsOf d c).Perm (lotsOf b.2.1 c)) := lotsOf_perm hpd c
   rcases hown.2 with ⟨hv, h0⟩ | ⟨g, cap, cur, hv, hgB, hgb, _⟩
   ·subst hv
    have hx : lotsOf d c = [] := by
     have := h0
     rcases hl : lotsOf d c with _ | ⟨a, r⟩
     ·rfl
     ·rw [hl] at this; simp at this
    have HX : Hid (lotsOf d c = []) := hx
    clear hown hrg hp hpd h0 hx
    go_wp2_with (go_at_call 104; refine (sorted_none _).mono ?_; rintro r w3 ⟨rfl, hw⟩; have hw' := hw.symm; subst hw')
    go_ret
    exact ⟨_, #[], rfl, Or.inl ⟨rfl, rfl⟩, by have := HP.out; rw [HX.out] at this; exact this, fun i j _ h1 h2 => absurd h2 (by simp), hb⟩
   ·subst hv
    have hR := own_rowLo hown
    have hsz : (lotsOf d c).toArray.size ≤ 59 := by simpa using hdl
    have hC := sorted_some g 0 cap (lotsOf d c).toArray wr hsz hR
    simp only [List.size_toArray] at hC
    have HC : Hid (Calls Tryz.prog 104 _ _ _) := hC
    clear hown hrg hp hpd hR hC hgB hgb
    go_wp2_with (go_at_call 104; refine HC.out.mono ?_; rintro r w3 ⟨g', cap', d', rfl, hg', hst, hH, hb3⟩)
    go_ret
    obtain ⟨⟨q1, q2, q3⟩, hso, _⟩ := hst
    have hsz' : d'.size = (lotsOf d c).length := by simpa using q1
    have e1 : (d'.extract 0 (lotsOf d c).length).toList = d'.toList := by rw [Array.toList_extract, ← hsz']; simp [List.take_of_length_le]
    have e2 : ((lotsOf d c).toArray.extract 0 (lotsOf d c).length).toList = lotsOf d c := by simp
    rw [e1, e2] at q3
    exact ⟨_, d', rfl, Or.inr ⟨g', cap', by rw [hsz']; rfl, Nat.le_trans hb.size hg', RowL.of_holds hH⟩, q3.trans HP.out, by rw [hsz']; exact hso, hb.trans (hb3.mono hb.size)⟩
  ·intro zi zc zu zk zh t' w1 hp1 hrg1 hg1 hs1 hen
   have hb1 := grown_below hb (Nat.le_refl _) hg1
   have hown1 := hown.kept hg1 (Or.inr (fun e9 => by have := (hown.lt _ e9).1; omega))
   have HP : Hid (((d ++ [((zi, zc, zu, zk), zh)]) ++ t').Perm b.2.1) := by
    show _
    rw [List.append_assoc]
    exact ((hp1.symm.append_left d)).trans hp
   have HM : Hid (wr.rangeLeft x.l w.heap.size = w1.rangeLeft x.l w.heap.size + 1) := by
    show _ = _
    rw [hrg.left_eq, hrg1.left_eq]
    have := hp1.length_eq
    simpa using this
   have hbN := hb1.alloc hb1.size (.cells #[.string zi, .string zc, .int .i64 zu, .int .i64 zk] 40)
   have hbM : Below w1.heap.size w1 (w1.alloc (.cells #[.string zi, .string zc, .int .i64 zu, .int .i64 zk] 40)) := (Below.refl _ w1).alloc (Nat.le_refl _) _
   have nN := heap_alloc_new w1 (.cells #[.string zi, .string zc, .int .i64 zu, .int .i64 zk] 40)
   have hown2 := hown1.alloc (.cells #[.string zi, .string zc, .int .i64 zu, .int .i64 zk] 40)
   obtain ⟨W2, hW2⟩ : ∃ W2, w1.alloc (.cells #[.string zi, .string zc, .int .i64 zu, .int .i64 zk] 40) = W2 := ⟨_, rfl⟩
   rw [hW2] at hbN nN hbM hown2
   have hrg2 : RangeL Tryz.prog 9 W2 x.l w.heap.size (b.2.1.map entL) (t'.map entL) := hrg1.below hbM hrg1.map.lt hrg1.lt
   have hl2 : W2.rangeLeft x.l w.heap.size = w1.rangeLeft x.l w.heap.size := hrg2.left_eq.trans hrg1.left_eq.symm
   have c0 : W2.cell? ⟨w1.heap.size, 0, none⟩ = some (.string zi) := by rw [cell_of_heap nN]; rfl
   have c1 : W2.cell? ⟨w1.heap.size, 1, none⟩ = some (.string zc) := by rw [cell_of_heap nN]; rfl
   have c2 : W2.cell? ⟨w1.heap.size, 2, none⟩ = some (.int .i64 zu) := by rw [cell_of_heap nN]; rfl
   have c3 : W2.cell? ⟨w1.heap.size, 3, none⟩ = some (.int .i64 zk) := by rw [cell_of_heap nN]; rfl
   have HR2 : Hid (RangeL _ _ _ _ _ _ _) := hrg2
   have HB2 : Hid (Below _ _ _) := hbN
   have HL2 : Hid (W2.rangeLeft x.l w.heap.size = w1.rangeLeft x.l w.heap.size) := hl2
   have HO2 : Hid (W2.ownsRow (w.heap.size + 1) 40 4 _ (lotsOf d c).length (encLq.flat (lotsOf d c))) := hown2
   have hlW : w.heap.size + 1 ≤ W2.heap.size := by have := hrg2.lt; omega
   clear hp hp1 hrg hrg1 hg1 hb hbN hbM nN hrg2 hl2 hs1 hown hown1 hown2
   by_cases hz : zc = c
   ·subst hz
    go_wp2_with (at_builtin; refine wpList_append_own _ rfl _ _ 142 rfl (w.heap.size + 1) 40 i0 (.agg #[.string ⟨#[]⟩, .string ⟨#[]⟩, .int .i64 0, .int .i64 0]) 4 48 Tryz.underlying142 hi hz0 hz1 hz2 rfl (by decide) _ (lotsOf d zc).length (encLq.flat (lotsOf d zc)) rfl (HO2.out.alloc _) ⟨W2.heap.size, 0, none⟩ 1 1 (encL (zi, zc, zu, zk)) rfl rfl (World.news_of_block (heap_alloc_new W2 _)) (encL_one _) (by unfold maxLen; omega) (by omega) (by simp; omega) ?_; intro v' w4 hown4 hgr4 _)
    have hR4 := (HR2.out.kept (World.grownBy_alloc W2 _ none) (by simp) (by simp)).kept hgr4 (fun e9 => by have := (HO2.out.lt _ e9.symm).1; have := HL.out; omega) (fun e9 => by have := (HO2.out.lt _ e9.symm).1; omega)
    refine ⟨⟨d ++ [((zi, zc, zu, zk), zh)], t', HP.out, ?_, hR4, (HB2.out.alloc HB2.out.size _).grown hgr4 (by simp; omega) (fun k hk => by have := (HO2.out.lt k hk).1; omega)⟩, ?_⟩
    ·rw [lotsOf_app, lotsOf_hit rfl, encLq.flat_append, encLq.flat_one, List.length_append]
     exact hown4
    ·rw [HM.out, hR4.left_eq, ← HL2.out, HR2.out.left_eq]; exact Nat.lt_succ_self _
   ·have e3 := same_eq zc c
    rw [decide_eq_false hz] at e3
    go_wp2
    go_roundw
    case rel => exact ⟨_, t', HP.out, by rw [lotsOf_app, lotsOf_miss hz, List.append_nil]; exact HO2.out, HR2.out, HB2.out⟩
    case measure => show World.rangeLeft _ _ _ < _; rw [HM.out, HL2.out]; exact Nat.lt_succ_self _
end Go.Proofs.YtefkchmahcjleaaGreatDoor
namespace Go.Proofs.YtefkchmahcjleaaGreatDoor
open Go.RowKit Go.Lib Go.Sort
theorem IsBk.mono {w : World} {B B' : Nat} {x : Bl} {b : Bk} (h : IsBk w B x b) (hB : B' ≤ B) : IsBk w B' x b := by
 obtain ⟨ps, bs, h⟩ := h
 exact ⟨ps, bs, { h with bp := Nat.le_trans hB h.bp, bg := Nat.le_trans hB h.bg, bs := Nat.le_trans hB h.bs }⟩
theorem IsBk.sizeL {w : World} {B : Nat} {x : Bl} {b : Bk} (h : IsBk w B x b) {l : Lh} (hl : l ∈ b.2.1) : l.1.1.size ≤ maxLen := by
 obtain ⟨ps, bs, h⟩ := h
 obtain ⟨kl, hk⟩ := h.L.keys _ (List.mem_map.2 ⟨l, hl, rfl⟩)
 obtain ⟨s, e, _, hs⟩ := WideMaps.string_of_keyOf Tryz.underlying9 hk
 cases e
 exact hs
def LotC (w : World) (g o : Nat) (l : Lo) : Prop := w.cell? ⟨g, o, none⟩ = some (.string l.1) ∧ w.cell? ⟨g, o + 1, none⟩ = some (.string l.2.1) ∧ w.cell? ⟨g, o + 2, none⟩ = some (.int .i64 l.2.2.1) ∧ w.cell? ⟨g, o + 3, none⟩ = some (.int .i64 l.2.2.2)
theorem LotC.below {w w' : World} {g o : Nat} {l : Lo} (h : LotC w g o l) (hb : Below w.heap.size w w') : LotC w' g o l := by
 obtain ⟨h0, h1, h2, h3⟩ := h
 exact ⟨(hb.cell (p := ⟨g, o, none⟩) (cell_lt h0)).trans h0, (hb.cell (p := ⟨g, o + 1, none⟩) (cell_lt h1)).trans h1, (hb.cell (p := ⟨g, o + 2, none⟩) (cell_lt h2)).trans h2, (hb.cell (p := ⟨g, o + 3, none⟩) (cell_lt h3)).trans h3⟩
theorem LotsAt.shape4 {w : World} {B : Nat} {v : Value} {d : Array Lo} (h : LotsAt w B v d) : ∃ pl cap, v = .slice pl d.size cap ∧ ∀ j, j < d.size → ∃ g, pl = some ⟨g, 0, none⟩ ∧ LotC w g (j * 4) d[j]! := by
 rcases h with ⟨h1, h2⟩ | ⟨g, cap, h1, h2, h3⟩
 ·refine ⟨none, 0, by rw [h1, h2]; rfl, fun j hj => ?_⟩
  rw [h2] at hj
  simp at hj
 ·refine ⟨_, cap, h1, fun j hj => ⟨g, rfl, ?_⟩⟩
  have := h3.cells hj
  simp only [Nat.zero_add] at this
  exact this
theorem lotsOf_mem {m : List Lh} {c : ByteArray} {x : Lo} (h : x ∈ lotsOf m c) : ∃ l ∈ m, l.1 = x := by
 unfold lotsOf at h
 obtain ⟨l, hl, e⟩ := List.mem_map.1 h
 exact ⟨l, (List.mem_filter.1 hl).1, e⟩
theorem lotsOf_ids {b : Bk} (hok : BkOk b) (c : ByteArray) : ((lotsOf b.2.1 c).map fun x : Lo => x.1).Nodup := by
 unfold lotsOf
 rw [List.map_map]
 have h1 : (b.2.1.filter fun l => decide (l.1.2.1 = c)).Pairwise (fun x y => zLt (nameL x) (nameL y) = true) := hok.ls.sublist (List.filter_sublist ..)
 unfold List.Nodup
 rw [List.pairwise_map]
 exact h1.imp fun {x y} h e => by
  have e' : nameL x = nameL y := e
  rw [e', zLt_irrefl] at h
  cases h
def goodsAt (b : Bk) (c : ByteArray) : Gd := ((findN nameG b.1 c).map (·.1)).getD (⟨#[]⟩, 0)
def isGoods (b : Bk) (c : ByteArray) : Bool := (findN nameG b.1 c).isSome
theorem sets2' {W : World} {A : Nat} {a b : Value} {t : TypeId} (n1 : W.heap[A]? = some (.cells #[a, b] t (0, 0))) (v0 v1 : Value) : ∃ V2 V3 : World, W.setCell ⟨A, 0, none⟩ v0 = V2 ∧ V2.setCell ⟨A, 1, none⟩ v1 = V3 ∧
  (W.cell? ⟨A, 0, none⟩ = some a ∧ W.cell? ⟨A, 1, none⟩ = some b ∧ ∀ o, W.frozen? ⟨A, o, none⟩ = false) ∧ (V2.cell? ⟨A, 1, none⟩ = some b ∧ ∀ o, V2.frozen? ⟨A, o, none⟩ = false) ∧ V3.cell? ⟨A, 0, none⟩ = some v0 ∧ V3.cell? ⟨A, 1, none⟩ = some v1 ∧ Off [A] W V3 := by
 have n2 : (W.setCell ⟨A, 0, none⟩ v0).heap[A]? = some (.cells #[v0, b] t (0, 0)) := set_cell n1 0 v0 rfl
 have b2 : Off [A] W (W.setCell ⟨A, 0, none⟩ v0) := (Off.refl _ W).set (by simp) v0
 refine ⟨_, _, rfl, rfl, ?_⟩
 generalize W.setCell ⟨A, 0, none⟩ v0 = V2 at *
 have n3 : (V2.setCell ⟨A, 1, none⟩ v1).heap[A]? = some (.cells #[v0, v1] t (0, 0)) := set_cell n2 1 v1 rfl
 exact ⟨⟨by rw [cell_of_heap n1]; rfl, by rw [cell_of_heap n1]; rfl, fun o => frozen_of_heap n1 o⟩, ⟨by rw [cell_of_heap n2]; rfl, fun o => frozen_of_heap n2 o⟩, by rw [cell_of_heap n3]; rfl, by rw [cell_of_heap n3]; rfl, b2.set (by simp) v1⟩
theorem BkAt.goodsAt_ {W : World} {B : Nat} {x : Bl} {ps bs : Nat} {b : Bk} (h : BkAt W B x ps bs b) {c : ByteArray} (hc : c.size ≤ maxLen) : (Instr.lookup 70 (.map (some x.g)) (.string c) true).run Tryz.prog W = .ok (.tuple #[.agg #[.string (goodsAt b c).1, .int .i64 (goodsAt b c).2], .bool (isGoods b c)]) W := by
 unfold goodsAt isGoods
 rcases findN_cases nameG b.1 c with ⟨h1, h2⟩ | ⟨y, h1, h2, h3⟩
 ·rw [h1]; exact h.askG_no hc h2
 ·rw [h1]; exact h.askG_yes hc h2 h3
theorem bgoodsOf_any (c : ByteArray) (w : World) (B : Nat) (x : Bl) (b : Bk) (h : IsBk w B x b) (hc : c.size ≤ maxLen) :
  Calls Tryz.prog 30 #[.pointer (some ⟨x.p, 0, none⟩), .string c] w fun e w' => e = .returned (.tuple #[agG (goodsAt b c), .bool (isGoods b c)]) ∧ Below w.heap.size w w' := by
 have n1 := heap_alloc_new w (.cells #[.string ⟨#[]⟩, .int .i64 0] 38)
 have b1 : Below w.heap.size w (w.alloc (.cells #[.string ⟨#[]⟩, .int .i64 0] 38)) := (Below.refl _ w).alloc (Nat.le_refl _) _
 obtain ⟨W, hW1⟩ : ∃ W, w.alloc (.cells #[.string ⟨#[]⟩, .int .i64 0] 38) = W := ⟨_, rfl⟩
 rw [hW1] at n1 b1
 obtain ⟨V1, V2, V3, e1, e2, e3, ⟨k1, k2, k3⟩, ⟨k6, k7⟩, n5, kb1, _, kb5⟩ := boxed2 W (.string ⟨#[]⟩) (.int .i64 0) (.string (goodsAt b c).1) (.int .i64 (goodsAt b c).2) 38
 have g0 : V3.cell? ⟨W.heap.size, 0, none⟩ = some (.string (goodsAt b c).1) := by rw [cell_of_heap n5]; rfl
 have g1 : V3.cell? ⟨W.heap.size, 1, none⟩ = some (.int .i64 (goodsAt b c).2) := by rw [cell_of_heap n5]; rfl
 obtain ⟨T2, T3, f2, f3, ⟨j1, j2, j5⟩, ⟨j6, j7⟩, m0, m1, fo⟩ := sets2' ((kb5.block _ (Array.getElem?_eq_some_iff.1 n1).1).trans n1) (.string (goodsAt b c).1) (.int .i64 (goodsAt b c).2)
 have hW := whole_any W B x b (h.below b1)
 obtain ⟨ps, bs, h⟩ := h
 obtain ⟨p0, _, _, _, _, _⟩ := (h.all b1).cells
 have hl := (h.all b1).goodsAt_ hc
 have HW : Hid (Calls Tryz.prog 23 _ _ _) := hW
 have hb5 : Below w.heap.size w V3 := b1.trans (kb5.mono b1.size)
 have HB : Hid (Below w.heap.size w T3) := hb5.trans (fo.below hb5.size (by simp))
 unfold agG
 generalize goodsAt b c = u at *
 obtain ⟨u0, u1⟩ := u
 simp only at *
 clear h hW kb1 kb5 n5 fo hb5 b1 n1
 go_enter Tryz.func30, Tryz.ntmps30
 go_wp2_with (first
  | (go_at_call 23; refine HW.out.mono ?_; rintro e w1 ⟨rfl, hw⟩; have hw' := hw.symm; subst hw')
  | (at_lookup; refine wpL_ask rfl _ _ 70 rfl x.g _ _ rfl rfl hl ?_))
 exact bodyPost_ret (v := .tuple #[.agg #[.string u0, .int .i64 u1], .bool (isGoods b c)]) (by simp [results, Tryz.results30, go_sem, m0, m1]) rfl ⟨rfl, HB.out⟩
end Go.Proofs.YtefkchmahcjleaaGreatDoor
namespace Go.Proofs.YtefkchmahcjleaaGreatDoor
open Go.RowKit Go.Lib Go.Sort
open Go.MapKept Go.ChangeMaps
open Go.Maps (Keyed)
section
variable {α : Type} {f : α → ByteArray} {v : α → Value}
def entO (f : α → ByteArray) (v : α → Value) (x : α) : Ent := (.string (f x), v x)
theorem names_nodup {P : Program} {k : TypeId} {w : World} {b : Nat} {m : List α} (h : MapL P k w b (m.map (entO f v))) : (m.map f).Nodup := by
 have h1 := h.nodup
 rw [List.map_map] at h1
 unfold List.Nodup at *
 rw [List.pairwise_map] at *
 exact h1.imp fun h e => h (by simp only [Function.comp, entO]; rw [e])
theorem nodup_uniq {m : List α} (h : (m.map f).Nodup) : ∀ {x y : α}, x ∈ m → y ∈ m → f x = f y → x = y := by
 induction m with
 | nil => intro x y hx; simp at hx
 | cons a m ih =>
  intro x y hx hy e
  rw [List.map_cons] at h
  obtain ⟨h1, h2⟩ := List.nodup_cons.1 h
  rcases List.mem_cons.1 hx with hx | hx
  ·rcases List.mem_cons.1 hy with hy | hy
   ·exact hx.trans hy.symm
   ·exact absurd (List.mem_map.2 ⟨y, hy, by rw [← e, hx]⟩) h1
  ·rcases List.mem_cons.1 hy with hy | hy
   ·exact absurd (List.mem_map.2 ⟨x, hx, by rw [e, hy]⟩) h1
   ·exact ih h2 hx hy e
theorem nodup_of_names {m : List α} (h : (m.map f).Nodup) : m.Nodup := by
 unfold List.Nodup at *
 rw [List.pairwise_map] at h
 exact h.imp fun h e => h (by rw [e])
theorem askO_hit {k t e : TypeId} {W : World} {b : Nat} {m : List α} (K : Keyed Tryz.prog k) (ht : Tryz.prog.underlying t = some (.map k e)) (h : MapL Tryz.prog k W b (m.map (entO f v))) {c : ByteArray} {kl : Lit} (hk : keyOf Tryz.prog k (.string c) = some kl) {y : α} (hy : findN f m c = some y) : (Instr.lookup t (.map (some b)) (.string c) true).run Tryz.prog W = .ok (.tuple #[v y, .bool true]) W := by
 obtain ⟨h1, h2⟩ := findN_mem hy
 exact h.ask_hit K ht hk (List.mem_map.2 ⟨y, h1, by unfold entO; rw [h2]⟩)
theorem askO_miss {k t e : TypeId} {W : World} {b : Nat} {m : List α} (K : Keyed Tryz.prog k) (ht : Tryz.prog.underlying t = some (.map k e)) (h : MapL Tryz.prog k W b (m.map (entO f v))) {c : ByteArray} {kl : Lit} (hk : keyOf Tryz.prog k (.string c) = some kl) {z : Value} (hz : (zeroValue e).run Tryz.prog W = .ok z W) (hy : findN f m c = none) : (Instr.lookup t (.map (some b)) (.string c) true).run Tryz.prog W = .ok (.tuple #[z, .bool false]) W := by
 refine h.ask_miss K ht hk hz fun u hu => ?_
 obtain ⟨x, hx, e9⟩ := List.mem_map.1 hu
 rcases findN_cases f m c with ⟨_, h2⟩ | ⟨y, h1, _⟩
 ·have : f x = c := by have := congrArg Prod.fst e9; simpa [entO] using this
  exact h2 x hx this
 ·rw [h1] at hy; cases hy
structure EqS (f : α → ByteArray) (m m' d t : List α) : Prop where
 perm : (d ++ t).Perm m
 seen : ∀ x ∈ d, x ∈ m'
theorem EqS.start (m m' : List α) : EqS f m m' [] m := ⟨List.Perm.refl _, by simp⟩
theorem EqS.step {m m' d t t' : List α} {x : α} (h : EqS f m m' d t) (hp : t.Perm (x :: t')) (hx : findN f m' (f x) = some x) : EqS f m m' (d ++ [x]) t' := by
 refine ⟨?_, fun y hy => ?_⟩
 ·rw [List.append_assoc]
  exact (hp.symm.append_left d).trans h.perm
 ·rcases List.mem_append.1 hy with hy | hy
  ·exact h.seen y hy
  ·obtain rfl : y = x := by simpa using hy
   exact (findN_mem hx).1
theorem EqS.done {m m' d : List α} (h : EqS f m m' d []) (hn : (m.map f).Nodup) (hl : m.length = m'.length) : m.Perm m' := by
 have hp : d.Perm m := by have := h.perm; simpa using this
 exact perm_of_sub (nodup_of_names hn) (fun x hx => h.seen x (hp.mem_iff.2 hx)) hl
theorem EqS.other {m m' d t t' : List α} {x y : α} (h : EqS f m m' d t) (hp : t.Perm (x :: t')) (hn : (m'.map f).Nodup) (hx : findN f m' (f x) = some y) (hne : x ≠ y) : ¬ m.Perm m' := fun h9 => by
 have hm : x ∈ m := h.perm.mem_iff.1 (List.mem_append.2 (Or.inr (hp.mem_iff.2 (List.mem_cons_self ..))))
 obtain ⟨h1, h2⟩ := findN_mem hx
 exact hne (nodup_uniq hn (h9.mem_iff.1 hm) h1 h2.symm)
theorem EqS.miss {m m' d t t' : List α} {x : α} (h : EqS f m m' d t) (hp : t.Perm (x :: t')) (hx : findN f m' (f x) = none) : ¬ m.Perm m' := fun h9 => by
 have hm : x ∈ m := h.perm.mem_iff.1 (List.mem_append.2 (Or.inr (hp.mem_iff.2 (List.mem_cons_self ..))))
 rcases findN_cases f m' (f x) with ⟨_, h2⟩ | ⟨y, h1, _⟩
 ·exact h2 x (h9.mem_iff.1 hm) rfl
 ·rw [h1] at hx; cases hx
end
section
variable {α : Type} {f : α → ByteArray} {v : α → Value} {P : Program} {k : TypeId} {w : World} {ops : Array Oper} {rest : List Oper} {o : Oper} {a : Act} {Q : Exit → Act → World → Prop}
theorem wpO_next (f : α → ByteArray) (v : α → Value) (hg : o.guard = none) (it : Operand) (hop : o.op = Op.next it false) (b r : Nat) (L : List Ent) (t : List α) (hit : a.eval it = .pointer (some ⟨r, 0, none⟩)) (h : RangeL P k w b r L (t.map (entO f v)))
  (hDone : t = [] → wpList P ops Q rest (a.put o.dst (.tuple #[.bool false])) w)
  (hMore : ∀ (x : α) t' w', t.Perm (x :: t') → RangeL P k w' b r L (t'.map (entO f v)) → w.grownBy w' (some r) → w'.heap.size = w.heap.size → (Instr.entry (.pointer (some ⟨r, 0, none⟩))).run P w' = .ok (.tuple #[.string (f x), v x]) w' →
   wpList P ops Q rest (a.put o.dst (.tuple #[.bool true, .string (f x), v x])) w') : wpList P ops Q (o :: rest) a w := by
 refine wpL_next hg it hop k b r L (t.map (entO f v)) hit h (fun e => hDone (by simpa using e)) fun x T' w' hp hrg hgr hsz hen => ?_
 obtain ⟨l, t', rfl, h1, h2⟩ := perm_map_consF hp
 exact hMore l t' w' h1 (hrg.perm h2) hgr hsz hen
end
end Go.Proofs.YtefkchmahcjleaaGreatDoor
namespace Go.Proofs.YtefkchmahcjleaaGreatDoor
open Go.RowKit Go.Lib Go.Sort
theorem Tryz.guardGq : Tryz.prog.eqGuardType Tryz.prog.depth 38 = false := by kernel_rfl
theorem eqG_run (x y : Gd) (w : World) : (Op.equalIn 10000 38 (.agg #[.string x.1, .int .i64 x.2]) (.agg #[.string y.1, .int .i64 y.2])).run Tryz.prog w = .ok (decide (x = y)) w := by
 obtain ⟨a, r⟩ := x
 obtain ⟨a', r'⟩ := y
 have u3 := Tryz.underlying3
 have a3 := Tryz.isAgg3
 have z3 := Tryz.sizeOf3
 have u9 := Tryz.underlying9
 have a9 := Tryz.isAgg9
 have z9 := Tryz.sizeOf9
 have hS : Tryz.prog.underlying 38 = some (.struct (Tryz.prog.fieldsOf 38)) := by kernel_rfl
 have hp : Tryz.prog.stoodInHeld 38 = false := by kernel_rfl
 rw [show (10000 : Nat) = 9999 + 1 from rfl, run_equalIn_agg w 9999 38 _ _ hS hp]
 simp only [Program.fieldsOf, Tryz.underlying38]
 have e3 := same_eq a a'
 go_simp
 by_cases h1 : a = a' <;> by_cases h2 : r = r' <;> simp [h1, h2]
abbrev entGo : Gd → Ent := entO (fun g : Gd => g.1) (fun g : Gd => Value.agg #[(Value.string g.1), (Value.int .i64 g.2)])
section
variable {w : World} {ops : Array Oper} {rest : List Oper} {o : Oper} {a : Act} {Q : Exit → Act → World → Prop}
theorem wpGo_next (hg : o.guard = none) (it : Operand) (hop : o.op = Op.next it false) (b r : Nat) (L : List Ent) (t : List Gd) (hit : a.eval it = .pointer (some ⟨r, 0, none⟩)) (h : RangeL Tryz.prog 9 w b r L (t.map entGo))
  (hDone : t = [] → wpList Tryz.prog ops Q rest (a.put o.dst (.tuple #[.bool false])) w)
  (hMore : ∀ (xa : ByteArray) (xp : Int) t' w', t.Perm ((xa, xp) :: t') → RangeL Tryz.prog 9 w' b r L (t'.map entGo) → w.grownBy w' (some r) → w'.heap.size = w.heap.size → (Instr.entry (.pointer (some ⟨r, 0, none⟩))).run Tryz.prog w' = .ok (.tuple #[.string xa, .agg #[.string xa, .int .i64 xp]]) w' →
   wpList Tryz.prog ops Q rest (a.put o.dst (.tuple #[.bool true, .string xa, .agg #[.string xa, .int .i64 xp]])) w') : wpList Tryz.prog ops Q (o :: rest) a w :=
 wpO_next (fun g : Gd => g.1) (fun g : Gd => Value.agg #[(Value.string g.1), (Value.int .i64 g.2)]) hg it hop b r L t hit h hDone fun ⟨xa, xp⟩ t' w' h1 h2 h3 h4 h5 => hMore xa xp t' w' h1 h2 h3 h4 h5
end
theorem askGo_hit {W : World} {b : Nat} {m : List Gd} (h : MapL Tryz.prog 9 W b (m.map entGo)) {c : ByteArray} {kl : Lit} (hk : keyOf Tryz.prog 9 (.string c) = some kl) {ya : ByteArray} {yp : Int} (hy : findN (fun g : Gd => g.1) m c = some (ya, yp)) : (Instr.lookup 70 (.map (some b)) (.string c) true).run Tryz.prog W = .ok (.tuple #[.agg #[.string ya, .int .i64 yp], .bool true]) W :=
 askO_hit (v := (fun g : Gd => Value.agg #[(Value.string g.1), (Value.int .i64 g.2)])) Tryz.keyedS Tryz.underlying70 h hk hy
theorem askGo_miss {W : World} {b : Nat} {m : List Gd} (h : MapL Tryz.prog 9 W b (m.map entGo)) {c : ByteArray} {kl : Lit} (hk : keyOf Tryz.prog 9 (.string c) = some kl) (hy : findN (fun g : Gd => g.1) m c = none) : (Instr.lookup 70 (.map (some b)) (.string c) true).run Tryz.prog W = .ok (.tuple #[.agg #[.string ⟨#[]⟩, .int .i64 0], .bool false]) W :=
 askO_miss (v := (fun g : Gd => Value.agg #[(Value.string g.1), (Value.int .i64 g.2)])) Tryz.keyedS Tryz.underlying70 h hk (Tryz.zeroValue38 W) hy
theorem equalG_any (w : World) (b1 b2 : Nat) (m1 m2 : List Gd) (h1 : MapL Tryz.prog 9 w b1 (m1.map entGo)) (h2 : MapL Tryz.prog 9 w b2 (m2.map entGo)) (s1 : m1.length ≤ 1000) (s2 : m2.length ≤ 1000) :
  Calls Tryz.prog 38 #[.map (some b1), .map (some b2)] w fun e w' => ∃ r, e = .returned (.bool r) ∧ (r = true ↔ m1.Perm m2) ∧ Below w.heap.size w w' := by
 have HN1 : Hid ((m1.map (fun g : Gd => g.1)).Nodup) := names_nodup h1
 have HN2 : Hid ((m2.map (fun g : Gd => g.1)).Nodup) := names_nodup h2
 have HK : Hid (∀ (xa : ByteArray) (xp : Int), (xa, xp) ∈ m1 → ∃ kl, keyOf Tryz.prog 9 (.string xa) = some kl) := fun xa xp hx => h1.keys _ (List.mem_map.2 ⟨_, hx, rfl⟩)
 have H2 : Hid (∀ W, Below w.heap.size w W → MapL Tryz.prog 9 W b2 (m2.map entGo)) := fun W hb => h2.below hb h2.lt
 obtain ⟨l1, hl1⟩ : ∃ l1, (m1.map entGo).length = l1 := ⟨_, rfl⟩
 obtain ⟨l2, hl2⟩ : ∃ l2, (m2.map entGo).length = l2 := ⟨_, rfl⟩
 have q1 : m1.length = l1 := by rw [← hl1]; simp
 have q2 : m2.length = l2 := by rw [← hl2]; simp
 have t1 : l1 ≤ 1000 := by omega
 have t2 : l2 ≤ 1000 := by omega
 clear s1 s2
 go_enter Tryz.func38, Tryz.ntmps38
 by_cases hll : l1 = l2
 ·have HLe : Hid (m1.length = m2.length) := by show _ = _; omega
  subst hll
  clear q1 q2
  go_wp2_with (first
   | (at_len; refine wpL_len rfl _ 70 rfl 9 38 Tryz.underlying70 b1 _ l1 hl1 rfl h1 ?_)
   | (at_len; refine wpL_len rfl _ 70 rfl 9 38 Tryz.underlying70 b2 _ l1 hl2 rfl h2 ?_)
   | (at_range; refine wpL_range rfl _ 70 rfl 9 38 Tryz.underlying70 b1 (m1.map entGo) rfl h1 ?_; intro w0 hrg0 hg0 hs0))
  go_frame
  have hb0 : Below w.heap.size w w0 := ⟨hg0.os, hg0.tape, hg0.output, hg0.size, fun k hk => hg0.block k hk (by simp)⟩
  clear hg0 hs0 h1 h2 hl1 hl2 t1 t2
  go_loopw [] (fun wr => ∃ d t : List Gd, EqS (fun g : Gd => g.1) m1 m2 d t ∧ RangeL Tryz.prog 9 wr b1 w.heap.size (m1.map entGo) (t.map entGo) ∧ Below w.heap.size w wr) (fun wr => wr.rangeLeft b1 w.heap.size)
  case atStart => exact ⟨[], m1, EqS.start _ _, hrg0, hb0⟩
  case round =>
   obtain ⟨d, t, hE, hrg, hb⟩ := hrel
   have HE : Hid (EqS _ _ _ _ _) := hE
   go_wp2_with (at_next; refine wpGo_next rfl _ rfl b1 w.heap.size _ t rfl hrg ?_ ?_)
   ·intro ht
    subst ht
    go_wp2
    go_ret
    exact ⟨true, rfl, ⟨fun _ => HE.out.done HN1.out HLe.out, fun _ => rfl⟩, hb⟩
   ·intro xa xp t' w1 hp1 hrg1 hg1 hs1 hen
    have hb1 := grown_below hb (Nat.le_refl _) hg1
    have HP : Hid (t.Perm ((xa, xp) :: t')) := hp1
    have HM : Hid (wr.rangeLeft b1 w.heap.size = w1.rangeLeft b1 w.heap.size + 1) := by
     show _ = _
     rw [hrg.left_eq, hrg1.left_eq]
     have := hp1.length_eq
     simpa using this
    obtain ⟨kl, hkl⟩ := HK.out xa xp (hE.perm.mem_iff.1 (List.mem_append.2 (Or.inr (hp1.mem_iff.2 (List.mem_cons_self ..)))))
    have hbN := hb1.alloc hb1.size (.cells #[.string xa, .int .i64 xp] 38)
    have hbM : Below w1.heap.size w1 (w1.alloc (.cells #[.string xa, .int .i64 xp] 38)) := (Below.refl _ w1).alloc (Nat.le_refl _) _
    have nN := heap_alloc_new w1 (.cells #[.string xa, .int .i64 xp] 38)
    obtain ⟨W2, hW2⟩ : ∃ W2, w1.alloc (.cells #[.string xa, .int .i64 xp] 38) = W2 := ⟨_, rfl⟩
    rw [hW2] at hbN nN hbM
    have hrg2 : RangeL Tryz.prog 9 W2 b1 w.heap.size (m1.map entGo) (t'.map entGo) := hrg1.below hbM hrg1.map.lt hrg1.lt
    have HL2 : Hid (W2.rangeLeft b1 w.heap.size = w1.rangeLeft b1 w.heap.size) := hrg2.left_eq.trans hrg1.left_eq.symm
    cases hfi : findN (fun g : Gd => g.1) m2 xa with
    | none =>
     obtain ⟨V1, V2, V5, e1, e2, e3, ⟨k1, k2, k5⟩, ⟨k6, k7⟩, n5, kb1, kb2, kb5⟩ := boxed2 W2 (.string ⟨#[]⟩) (.int .i64 0) (.string ⟨#[]⟩) (.int .i64 0) 38
     have hl := askGo_miss (H2.out W2 hbN) hkl hfi
     have HB5 : Hid (Below w.heap.size w V5) := hbN.trans (kb5.mono hbN.size)
     clear hE hp1 hrg hrg1 hg1 hb hb1 hbN hbM nN hrg2 hs1 hkl n5 kb5
     go_wp2_with (at_lookup; refine wpL_ask rfl _ _ 70 rfl b2 _ _ rfl rfl hl ?_)
     go_ret
     exact ⟨false, rfl, ⟨fun e9 => (by cases e9), fun e9 => absurd e9 (HE.out.miss HP.out hfi)⟩, HB5.out⟩
    | some y =>
     obtain ⟨ya, yp⟩ := y
     have kb5 : Below W2.heap.size W2 (W2.alloc (.cells #[.string ya, .int .i64 yp] 38)) := (Below.refl _ W2).alloc (Nat.le_refl _) _
     have n5 := heap_alloc_new W2 (.cells #[.string ya, .int .i64 yp] 38)
     obtain ⟨V5, hV5⟩ : ∃ V5, W2.alloc (.cells #[.string ya, .int .i64 yp] 38) = V5 := ⟨_, rfl⟩
     rw [hV5] at kb5 n5
     have hl := askGo_hit (H2.out W2 hbN) hkl hfi
     have n9 := (kb5.block _ (Array.getElem?_eq_some_iff.1 nN).1).trans nN
     have c0 : V5.cell? ⟨w1.heap.size, 0, none⟩ = some (.string xa) := by rw [cell_of_heap n9]; rfl
     have c1 : V5.cell? ⟨w1.heap.size, 1, none⟩ = some (.int .i64 xp) := by rw [cell_of_heap n9]; rfl
     have d0 : V5.cell? ⟨W2.heap.size, 0, none⟩ = some (.string ya) := by rw [cell_of_heap n5]; rfl
     have d1 : V5.cell? ⟨W2.heap.size, 1, none⟩ = some (.int .i64 yp) := by rw [cell_of_heap n5]; rfl
     have HB5 : Hid (Below w.heap.size w V5) := hbN.trans (kb5.mono hbN.size)
     have HR5 : Hid (RangeL Tryz.prog 9 V5 b1 w.heap.size (m1.map entGo) (t'.map entGo)) := hrg2.below kb5 hrg2.map.lt hrg2.lt
     have HLL : Hid (V5.rangeLeft b1 w.heap.size = W2.rangeLeft b1 w.heap.size) := HR5.out.left_eq.trans hrg2.left_eq.symm
     have hq := fun W => eqG_run (xa, xp) (ya, yp) W
     have hgd := Tryz.guardGq
     clear hE hp1 hrg hrg1 hg1 hb hb1 hbN hbM nN hrg2 hs1 hkl n5 n9 kb5
     simp only at hq
     by_cases hxy : (xa, xp) = (ya, yp)
     ·have hdec : decide ((xa, xp) = (ya, yp)) = true := decide_eq_true hxy
      rw [hdec] at hq
      have HS : Hid (EqS _ m1 m2 (d ++ [(xa, xp)]) t') := HE.out.step HP.out (by rw [hfi]; exact congrArg some hxy.symm)
      clear hdec
      go_wp2_with (at_lookup; refine wpL_ask rfl _ _ 70 rfl b2 _ _ rfl rfl hl ?_)
      go_roundw
      case rel => exact ⟨_, t', HS.out, HR5.out, HB5.out⟩
      case measure => show World.rangeLeft _ _ _ < _; rw [HM.out, ← HL2.out, HLL.out]; exact Nat.lt_succ_self _
     ·have hdec : decide ((xa, xp) = (ya, yp)) = false := decide_eq_false hxy
      rw [hdec] at hq
      clear hdec
      go_wp2_with (at_lookup; refine wpL_ask rfl _ _ 70 rfl b2 _ _ rfl rfl hl ?_)
      go_ret
      exact ⟨false, rfl, ⟨fun e9 => (by cases e9), fun e9 => absurd e9 (HE.out.other HP.out HN2.out hfi hxy)⟩, HB5.out⟩
 ·have HLe : Hid (¬ m1.Perm m2) := fun e9 => hll (by have := e9.length_eq; omega)
  have hll' : (l1 : Int) ≠ (l2 : Int) := by omega
  clear q1 q2
  go_wp2_with (first
   | (at_len; refine wpL_len rfl _ 70 rfl 9 38 Tryz.underlying70 b1 _ l1 hl1 rfl h1 ?_)
   | (at_len; refine wpL_len rfl _ 70 rfl 9 38 Tryz.underlying70 b2 _ l2 hl2 rfl h2 ?_))
  go_ret
  exact ⟨false, rfl, ⟨fun e9 => (by cases e9), fun e9 => absurd e9 HLe.out⟩, Below.refl _ _⟩
end Go.Proofs.YtefkchmahcjleaaGreatDoor
namespace Go.Proofs.YtefkchmahcjleaaGreatDoor
open Go.RowKit Go.Lib Go.Sort
theorem Tryz.guardU : Tryz.prog.eqGuardType Tryz.prog.depth 80 = false := by kernel_rfl
theorem eqU_run (x y : Su) (w : World) : (Op.equalIn 10000 80 (.agg #[.int .i64 x.1, .int .i64 x.2.1, .int .i64 x.2.2.1, .int .i64 x.2.2.2]) (.agg #[.int .i64 y.1, .int .i64 y.2.1, .int .i64 y.2.2.1, .int .i64 y.2.2.2])).run Tryz.prog w = .ok (decide (x = y)) w := by
 obtain ⟨a, c, u, k⟩ := x
 obtain ⟨a', c', u', k'⟩ := y
 simp only
 have u3 := Tryz.underlying3
 have a3 := Tryz.isAgg3
 have z3 := Tryz.sizeOf3
 have hS : Tryz.prog.underlying 80 = some (.struct (Tryz.prog.fieldsOf 80)) := by kernel_rfl
 have hp : Tryz.prog.stoodInHeld 80 = false := by kernel_rfl
 rw [show (10000 : Nat) = 9999 + 1 from rfl, run_equalIn_agg w 9999 80 _ _ hS hp]
 simp only [Program.fieldsOf, Tryz.underlying80]
 go_simp
 by_cases h1 : a = a' <;> by_cases h2 : c = c' <;> by_cases h3 : u = u' <;> by_cases h4 : k = k' <;> simp [h1, h2, h3, h4]
def zRye : ByteArray := ⟨#[114, 121, 101]⟩
def zL1 : ByteArray := ⟨#[108, 49]⟩
def zPl : Pl := (⟨#[]⟩, 0, 0)
def stE1 : En := (kGoods, (zRye, 6), zeroLo, zPl, zPl, 0)
def stE2 : En := (kLot, (⟨#[]⟩, 0), (zL1, zRye, 9, 2), zPl, zPl, 0)
def stB1 : Bk := ([((zRye, 6), zeroSu)], [], [])
def stB2 : Bk := ([((zRye, 6), zeroSu)], [((zL1, zRye, 9, 2), 0)], [])
theorem st1 : doB ([], [], []) stE1 = (stB1, 0) := by kernel_rfl
theorem st2 : doB stB1 stE2 = (stB2, 0) := by kernel_rfl
end Go.Proofs.YtefkchmahcjleaaGreatDoor
namespace Go.Proofs.YtefkchmahcjleaaGreatDoor
open Go.RowKit Go.Lib Go.Sort
theorem Tryz.guardQq : Tryz.prog.eqGuardType Tryz.prog.depth 40 = false := by kernel_rfl
theorem eqL9a_run (x y : Lo) (w : World) : (Op.equalIn 10000 40 (.agg #[.string x.1, .string x.2.1, .int .i64 x.2.2.1, .int .i64 x.2.2.2]) (.agg #[.string y.1, .string y.2.1, .int .i64 y.2.2.1, .int .i64 y.2.2.2])).run Tryz.prog w = .ok (decide (x = y)) w := by
 obtain ⟨a, r, b, c⟩ := x
 obtain ⟨a', r', b', c'⟩ := y
 have u3 := Tryz.underlying3
 have a3 := Tryz.isAgg3
 have z3 := Tryz.sizeOf3
 have u9 := Tryz.underlying9
 have a9 := Tryz.isAgg9
 have z9 := Tryz.sizeOf9
 have hS : Tryz.prog.underlying 40 = some (.struct (Tryz.prog.fieldsOf 40)) := by kernel_rfl
 have hp : Tryz.prog.stoodInHeld 40 = false := by kernel_rfl
 rw [show (10000 : Nat) = 9999 + 1 from rfl, run_equalIn_agg w 9999 40 _ _ hS hp]
 simp only [Program.fieldsOf, Tryz.underlying40]
 have e3 := same_eq a a'
 have e4 := same_eq r r'
 go_simp
 by_cases h1 : a = a' <;> by_cases h2 : r = r' <;> by_cases h3 : b = b' <;> by_cases h4 : c = c' <;> simp [h1, h2, h3, h4]
abbrev entQo : Lo → Ent := entO (fun g : Lo => g.1) (fun g : Lo => Value.agg #[(Value.string g.1), (Value.string g.2.1), (Value.int .i64 g.2.2.1), (Value.int .i64 g.2.2.2)])
section
variable {w : World} {ops : Array Oper} {rest : List Oper} {o : Oper} {a : Act} {Q : Exit → Act → World → Prop}
theorem wpQo_next (hg : o.guard = none) (it : Operand) (hop : o.op = Op.next it false) (b r : Nat) (L : List Ent) (t : List Lo) (hit : a.eval it = .pointer (some ⟨r, 0, none⟩)) (h : RangeL Tryz.prog 9 w b r L (t.map entQo))
  (hDone : t = [] → wpList Tryz.prog ops Q rest (a.put o.dst (.tuple #[.bool false])) w)
  (hMore : ∀ (xa : ByteArray) (xc : ByteArray) (xu : Int) (xk : Int) t' w', t.Perm ((xa, xc, xu, xk) :: t') → RangeL Tryz.prog 9 w' b r L (t'.map entQo) → w.grownBy w' (some r) → w'.heap.size = w.heap.size → (Instr.entry (.pointer (some ⟨r, 0, none⟩))).run Tryz.prog w' = .ok (.tuple #[.string xa, .agg #[.string xa, .string xc, .int .i64 xu, .int .i64 xk]]) w' →
   wpList Tryz.prog ops Q rest (a.put o.dst (.tuple #[.bool true, .string xa, .agg #[.string xa, .string xc, .int .i64 xu, .int .i64 xk]])) w') : wpList Tryz.prog ops Q (o :: rest) a w :=
 wpO_next (fun g : Lo => g.1) (fun g : Lo => Value.agg #[(Value.string g.1), (Value.string g.2.1), (Value.int .i64 g.2.2.1), (Value.int .i64 g.2.2.2)]) hg it hop b r L t hit h hDone fun ⟨xa, xc, xu, xk⟩ t' w' h1 h2 h3 h4 h5 => hMore xa xc xu xk t' w' h1 h2 h3 h4 h5
end
theorem askQo_hit {W : World} {b : Nat} {m : List Lo} (h : MapL Tryz.prog 9 W b (m.map entQo)) {c : ByteArray} {kl : Lit} (hk : keyOf Tryz.prog 9 (.string c) = some kl) {ya : ByteArray} {yc : ByteArray} {yu : Int} {yk : Int} (hy : findN (fun g : Lo => g.1) m c = some (ya, yc, yu, yk)) : (Instr.lookup 73 (.map (some b)) (.string c) true).run Tryz.prog W = .ok (.tuple #[.agg #[.string ya, .string yc, .int .i64 yu, .int .i64 yk], .bool true]) W :=
 askO_hit (v := (fun g : Lo => Value.agg #[(Value.string g.1), (Value.string g.2.1), (Value.int .i64 g.2.2.1), (Value.int .i64 g.2.2.2)])) Tryz.keyedS Tryz.underlying73 h hk hy
theorem askQo_miss {W : World} {b : Nat} {m : List Lo} (h : MapL Tryz.prog 9 W b (m.map entQo)) {c : ByteArray} {kl : Lit} (hk : keyOf Tryz.prog 9 (.string c) = some kl) (hy : findN (fun g : Lo => g.1) m c = none) : (Instr.lookup 73 (.map (some b)) (.string c) true).run Tryz.prog W = .ok (.tuple #[.agg #[.string ⟨#[]⟩, .string ⟨#[]⟩, .int .i64 0, .int .i64 0], .bool false]) W :=
 askO_miss (v := (fun g : Lo => Value.agg #[(Value.string g.1), (Value.string g.2.1), (Value.int .i64 g.2.2.1), (Value.int .i64 g.2.2.2)])) Tryz.keyedS Tryz.underlying73 h hk (Tryz.zeroValue40 W) hy
theorem equalQ_any (w : World) (b1 b2 : Nat) (m1 m2 : List Lo) (h1 : MapL Tryz.prog 9 w b1 (m1.map entQo)) (h2 : MapL Tryz.prog 9 w b2 (m2.map entQo)) (s1 : m1.length ≤ 1000) (s2 : m2.length ≤ 1000) :
  Calls Tryz.prog 40 #[.map (some b1), .map (some b2)] w fun e w' => ∃ r, e = .returned (.bool r) ∧ (r = true ↔ m1.Perm m2) ∧ Below w.heap.size w w' := by
 have HN1 : Hid ((m1.map (fun g : Lo => g.1)).Nodup) := names_nodup h1
 have HN2 : Hid ((m2.map (fun g : Lo => g.1)).Nodup) := names_nodup h2
 have HK : Hid (∀ (xa : ByteArray) (xc : ByteArray) (xu : Int) (xk : Int), (xa, xc, xu, xk) ∈ m1 → ∃ kl, keyOf Tryz.prog 9 (.string xa) = some kl) := fun xa xc xu xk hx => h1.keys _ (List.mem_map.2 ⟨_, hx, rfl⟩)
 have H2 : Hid (∀ W, Below w.heap.size w W → MapL Tryz.prog 9 W b2 (m2.map entQo)) := fun W hb => h2.below hb h2.lt
 obtain ⟨l1, hl1⟩ : ∃ l1, (m1.map entQo).length = l1 := ⟨_, rfl⟩
 obtain ⟨l2, hl2⟩ : ∃ l2, (m2.map entQo).length = l2 := ⟨_, rfl⟩
 have q1 : m1.length = l1 := by rw [← hl1]; simp
 have q2 : m2.length = l2 := by rw [← hl2]; simp
 have t1 : l1 ≤ 1000 := by omega
 have t2 : l2 ≤ 1000 := by omega
 clear s1 s2
 go_enter Tryz.func40, Tryz.ntmps40
 by_cases hll : l1 = l2
 ·have HLe : Hid (m1.length = m2.length) := by show _ = _; omega
  subst hll
  clear q1 q2
  go_wp2_with (first
   | (at_len; refine wpL_len rfl _ 73 rfl 9 40 Tryz.underlying73 b1 _ l1 hl1 rfl h1 ?_)
   | (at_len; refine wpL_len rfl _ 73 rfl 9 40 Tryz.underlying73 b2 _ l1 hl2 rfl h2 ?_)
   | (at_range; refine wpL_range rfl _ 73 rfl 9 40 Tryz.underlying73 b1 (m1.map entQo) rfl h1 ?_; intro w0 hrg0 hg0 hs0))
  go_frame
  have hb0 : Below w.heap.size w w0 := ⟨hg0.os, hg0.tape, hg0.output, hg0.size, fun k hk => hg0.block k hk (by simp)⟩
  clear hg0 hs0 h1 h2 hl1 hl2 t1 t2
  go_loopw [] (fun wr => ∃ d t : List Lo, EqS (fun g : Lo => g.1) m1 m2 d t ∧ RangeL Tryz.prog 9 wr b1 w.heap.size (m1.map entQo) (t.map entQo) ∧ Below w.heap.size w wr) (fun wr => wr.rangeLeft b1 w.heap.size)
  case atStart => exact ⟨[], m1, EqS.start _ _, hrg0, hb0⟩
  case round =>
   obtain ⟨d, t, hE, hrg, hb⟩ := hrel
   have HE : Hid (EqS _ _ _ _ _) := hE
   go_wp2_with (at_next; refine wpQo_next rfl _ rfl b1 w.heap.size _ t rfl hrg ?_ ?_)
   ·intro ht
    subst ht
    go_wp2
    go_ret
    exact ⟨true, rfl, ⟨fun _ => HE.out.done HN1.out HLe.out, fun _ => rfl⟩, hb⟩
   ·intro xa xc xu xk t' w1 hp1 hrg1 hg1 hs1 hen
    have hb1 := grown_below hb (Nat.le_refl _) hg1
    have HP : Hid (t.Perm ((xa, xc, xu, xk) :: t')) := hp1
    have HM : Hid (wr.rangeLeft b1 w.heap.size = w1.rangeLeft b1 w.heap.size + 1) := by
     show _ = _
     rw [hrg.left_eq, hrg1.left_eq]
     have := hp1.length_eq
     simpa using this
    obtain ⟨kl, hkl⟩ := HK.out xa xc xu xk (hE.perm.mem_iff.1 (List.mem_append.2 (Or.inr (hp1.mem_iff.2 (List.mem_cons_self ..)))))
    have hbN := hb1.alloc hb1.size (.cells #[.string xa, .string xc, .int .i64 xu, .int .i64 xk] 40)
    have hbM : Below w1.heap.size w1 (w1.alloc (.cells #[.string xa, .string xc, .int .i64 xu, .int .i64 xk] 40)) := (Below.refl _ w1).alloc (Nat.le_refl _) _
    have nN := heap_alloc_new w1 (.cells #[.string xa, .string xc, .int .i64 xu, .int .i64 xk] 40)
    obtain ⟨W2, hW2⟩ : ∃ W2, w1.alloc (.cells #[.string xa, .string xc, .int .i64 xu, .int .i64 xk] 40) = W2 := ⟨_, rfl⟩
    rw [hW2] at hbN nN hbM
    have hrg2 : RangeL Tryz.prog 9 W2 b1 w.heap.size (m1.map entQo) (t'.map entQo) := hrg1.below hbM hrg1.map.lt hrg1.lt
    have HL2 : Hid (W2.rangeLeft b1 w.heap.size = w1.rangeLeft b1 w.heap.size) := hrg2.left_eq.trans hrg1.left_eq.symm
    cases hfi : findN (fun g : Lo => g.1) m2 xa with
    | none =>
     obtain ⟨V1, V2, V3, V4, V5, e1, e2, e3, e4, e5, ⟨k1, k2, k3, k4, k5⟩, ⟨k6, k7⟩, ⟨k8, k9⟩, ⟨k10, k11⟩, n5, kb1, kb5⟩ := boxed4 W2 (.string ⟨#[]⟩) (.string ⟨#[]⟩) (.int .i64 0) (.int .i64 0) (.string ⟨#[]⟩) (.string ⟨#[]⟩) (.int .i64 0) (.int .i64 0) 40
     have hl := askQo_miss (H2.out W2 hbN) hkl hfi
     have HB5 : Hid (Below w.heap.size w V5) := hbN.trans (kb5.mono hbN.size)
     clear hE hp1 hrg hrg1 hg1 hb hb1 hbN hbM nN hrg2 hs1 hkl n5 kb5
     go_wp2_with (at_lookup; refine wpL_ask rfl _ _ 73 rfl b2 _ _ rfl rfl hl ?_)
     go_ret
     exact ⟨false, rfl, ⟨fun e9 => (by cases e9), fun e9 => absurd e9 (HE.out.miss HP.out hfi)⟩, HB5.out⟩
    | some y =>
     obtain ⟨ya, yc, yu, yk⟩ := y
     have kb5 : Below W2.heap.size W2 (W2.alloc (.cells #[.string ya, .string yc, .int .i64 yu, .int .i64 yk] 40)) := (Below.refl _ W2).alloc (Nat.le_refl _) _
     have n5 := heap_alloc_new W2 (.cells #[.string ya, .string yc, .int .i64 yu, .int .i64 yk] 40)
     obtain ⟨V5, hV5⟩ : ∃ V5, W2.alloc (.cells #[.string ya, .string yc, .int .i64 yu, .int .i64 yk] 40) = V5 := ⟨_, rfl⟩
     rw [hV5] at kb5 n5
     have hl := askQo_hit (H2.out W2 hbN) hkl hfi
     have n9 := (kb5.block _ (Array.getElem?_eq_some_iff.1 nN).1).trans nN
     have c0 : V5.cell? ⟨w1.heap.size, 0, none⟩ = some (.string xa) := by rw [cell_of_heap n9]; rfl
     have c1 : V5.cell? ⟨w1.heap.size, 1, none⟩ = some (.string xc) := by rw [cell_of_heap n9]; rfl
     have c2 : V5.cell? ⟨w1.heap.size, 2, none⟩ = some (.int .i64 xu) := by rw [cell_of_heap n9]; rfl
     have c3 : V5.cell? ⟨w1.heap.size, 3, none⟩ = some (.int .i64 xk) := by rw [cell_of_heap n9]; rfl
     have d0 : V5.cell? ⟨W2.heap.size, 0, none⟩ = some (.string ya) := by rw [cell_of_heap n5]; rfl
     have d1 : V5.cell? ⟨W2.heap.size, 1, none⟩ = some (.string yc) := by rw [cell_of_heap n5]; rfl
     have d2 : V5.cell? ⟨W2.heap.size, 2, none⟩ = some (.int .i64 yu) := by rw [cell_of_heap n5]; rfl
     have d3 : V5.cell? ⟨W2.heap.size, 3, none⟩ = some (.int .i64 yk) := by rw [cell_of_heap n5]; rfl
     have HB5 : Hid (Below w.heap.size w V5) := hbN.trans (kb5.mono hbN.size)
     have HR5 : Hid (RangeL Tryz.prog 9 V5 b1 w.heap.size (m1.map entQo) (t'.map entQo)) := hrg2.below kb5 hrg2.map.lt hrg2.lt
     have HLL : Hid (V5.rangeLeft b1 w.heap.size = W2.rangeLeft b1 w.heap.size) := HR5.out.left_eq.trans hrg2.left_eq.symm
     have hq := fun W => eqL9a_run (xa, xc, xu, xk) (ya, yc, yu, yk) W
     have hgd := Tryz.guardQq
     clear hE hp1 hrg hrg1 hg1 hb hb1 hbN hbM nN hrg2 hs1 hkl n5 n9 kb5
     simp only at hq
     by_cases hxy : (xa, xc, xu, xk) = (ya, yc, yu, yk)
     ·have hdec : decide ((xa, xc, xu, xk) = (ya, yc, yu, yk)) = true := decide_eq_true hxy
      rw [hdec] at hq
      have HS : Hid (EqS _ m1 m2 (d ++ [(xa, xc, xu, xk)]) t') := HE.out.step HP.out (by rw [hfi]; exact congrArg some hxy.symm)
      clear hdec
      go_wp2_with (at_lookup; refine wpL_ask rfl _ _ 73 rfl b2 _ _ rfl rfl hl ?_)
      go_roundw
      case rel => exact ⟨_, t', HS.out, HR5.out, HB5.out⟩
      case measure => show World.rangeLeft _ _ _ < _; rw [HM.out, ← HL2.out, HLL.out]; exact Nat.lt_succ_self _
     ·have hdec : decide ((xa, xc, xu, xk) = (ya, yc, yu, yk)) = false := decide_eq_false hxy
      rw [hdec] at hq
      clear hdec
      go_wp2_with (at_lookup; refine wpL_ask rfl _ _ 73 rfl b2 _ _ rfl rfl hl ?_)
      go_ret
      exact ⟨false, rfl, ⟨fun e9 => (by cases e9), fun e9 => absurd e9 (HE.out.other HP.out HN2.out hfi hxy)⟩, HB5.out⟩
 ·have HLe : Hid (¬ m1.Perm m2) := fun e9 => hll (by have := e9.length_eq; omega)
  have hll' : (l1 : Int) ≠ (l2 : Int) := by omega
  clear q1 q2
  go_wp2_with (first
   | (at_len; refine wpL_len rfl _ 73 rfl 9 40 Tryz.underlying73 b1 _ l1 hl1 rfl h1 ?_)
   | (at_len; refine wpL_len rfl _ 73 rfl 9 40 Tryz.underlying73 b2 _ l2 hl2 rfl h2 ?_))
  go_ret
  exact ⟨false, rfl, ⟨fun e9 => (by cases e9), fun e9 => absurd e9 HLe.out⟩, Below.refl _ _⟩
end Go.Proofs.YtefkchmahcjleaaGreatDoor
namespace Go.Proofs.YtefkchmahcjleaaGreatDoor
open Go.RowKit Go.Lib Go.Sort
abbrev He := ByteArray × Int
abbrev entHo : He → Ent := entO (fun g : He => g.1) (fun g : He => Value.int .i64 g.2)
theorem askHo_hit {W : World} {b : Nat} {m : List He} (h : MapL Tryz.prog 9 W b (m.map entHo)) {c : ByteArray} {kl : Lit} (hk : keyOf Tryz.prog 9 (.string c) = some kl) {ya : ByteArray} {yp : Int} (hy : findN (fun g : He => g.1) m c = some (ya, yp)) : (Instr.lookup 74 (.map (some b)) (.string c) true).run Tryz.prog W = .ok (.tuple #[.int .i64 yp, .bool true]) W :=
 askO_hit (v := (fun g : He => Value.int .i64 g.2)) Tryz.keyedS Tryz.underlying74 h hk hy
theorem askHo_miss {W : World} {b : Nat} {m : List He} (h : MapL Tryz.prog 9 W b (m.map entHo)) {c : ByteArray} {kl : Lit} (hk : keyOf Tryz.prog 9 (.string c) = some kl) (hy : findN (fun g : He => g.1) m c = none) : (Instr.lookup 74 (.map (some b)) (.string c) true).run Tryz.prog W = .ok (.tuple #[.int .i64 0, .bool false]) W :=
 askO_miss (v := (fun g : He => Value.int .i64 g.2)) Tryz.keyedS Tryz.underlying74 h hk (Tryz.zeroValue3 W) hy
theorem equalH_any (w : World) (b1 b2 : Nat) (m1 m2 : List He) (h1 : MapL Tryz.prog 9 w b1 (m1.map entHo)) (h2 : MapL Tryz.prog 9 w b2 (m2.map entHo)) (s1 : m1.length ≤ 1000) (s2 : m2.length ≤ 1000) :
  Calls Tryz.prog 41 #[.map (some b1), .map (some b2)] w fun e w' => ∃ r, e = .returned (.bool r) ∧ (r = true ↔ m1.Perm m2) ∧ Below w.heap.size w w' := by
 have HN1 : Hid ((m1.map (fun g : He => g.1)).Nodup) := names_nodup h1
 have HN2 : Hid ((m2.map (fun g : He => g.1)).Nodup) := names_nodup h2
 have HK : Hid (∀ (xa : ByteArray) (xp : Int), (xa, xp) ∈ m1 → ∃ kl, keyOf Tryz.prog 9 (.string xa) = some kl) := fun xa xp hx => h1.keys _ (List.mem_map.2 ⟨_, hx, rfl⟩)
 have H2 : Hid (∀ W, Below w.heap.size w W → MapL Tryz.prog 9 W b2 (m2.map entHo)) := fun W hb => h2.below hb h2.lt
 obtain ⟨l1, hl1⟩ : ∃ l1, (m1.map entHo).length = l1 := ⟨_, rfl⟩
 obtain ⟨l2, hl2⟩ : ∃ l2, (m2.map entHo).length = l2 := ⟨_, rfl⟩
 have q1 : m1.length = l1 := by rw [← hl1]; simp
 have q2 : m2.length = l2 := by rw [← hl2]; simp
 have t1 : l1 ≤ 1000 := by omega
 have t2 : l2 ≤ 1000 := by omega
 clear s1 s2
 go_enter Tryz.func41, Tryz.ntmps41
 by_cases hll : l1 = l2
 ·have HLe : Hid (m1.length = m2.length) := by show _ = _; omega
  subst hll
  clear q1 q2
  go_wp2_with (first
   | (at_len; refine wpL_len rfl _ 74 rfl 9 3 Tryz.underlying74 b1 _ l1 hl1 rfl h1 ?_)
   | (at_len; refine wpL_len rfl _ 74 rfl 9 3 Tryz.underlying74 b2 _ l1 hl2 rfl h2 ?_)
   | (at_range; refine wpL_range rfl _ 74 rfl 9 3 Tryz.underlying74 b1 (m1.map entHo) rfl h1 ?_; intro w0 hrg0 hg0 hs0))
  go_frame
  have hb0 : Below w.heap.size w w0 := ⟨hg0.os, hg0.tape, hg0.output, hg0.size, fun k hk => hg0.block k hk (by simp)⟩
  clear hg0 hs0 h1 h2 hl1 hl2 t1 t2
  go_loopw [] (fun wr => ∃ d t : List He, EqS (fun g : He => g.1) m1 m2 d t ∧ RangeL Tryz.prog 9 wr b1 w.heap.size (m1.map entHo) (t.map entHo) ∧ Below w.heap.size w wr) (fun wr => wr.rangeLeft b1 w.heap.size)
  case atStart => exact ⟨[], m1, EqS.start _ _, hrg0, hb0⟩
  case round =>
   obtain ⟨d, t, hE, hrg, hb⟩ := hrel
   have HE : Hid (EqS _ _ _ _ _) := hE
   go_wp2_with (at_next; refine wpO_next (fun g : He => g.1) (fun g : He => Value.int .i64 g.2) rfl _ rfl b1 w.heap.size _ t rfl hrg ?_ ?_)
   ·intro ht
    subst ht
    go_wp2
    go_ret
    exact ⟨true, rfl, ⟨fun _ => HE.out.done HN1.out HLe.out, fun _ => rfl⟩, hb⟩
   ·intro xa xp t' w1 hp1 hrg1 hg1 hs1 hen
    have hb1 := grown_below hb (Nat.le_refl _) hg1
    have HP : Hid (t.Perm ((xa, xp) :: t')) := hp1
    have HM : Hid (wr.rangeLeft b1 w.heap.size = w1.rangeLeft b1 w.heap.size + 1) := by
     show _ = _
     rw [hrg.left_eq, hrg1.left_eq]
     have := hp1.length_eq
     simpa using this
    obtain ⟨kl, hkl⟩ := HK.out xa xp (hE.perm.mem_iff.1 (List.mem_append.2 (Or.inr (hp1.mem_iff.2 (List.mem_cons_self ..)))))
    have HB1 : Hid (Below w.heap.size w w1) := hb1
    have HR1 : Hid (RangeL Tryz.prog 9 w1 b1 w.heap.size (m1.map entHo) (t'.map entHo)) := hrg1
    cases hfi : findN (fun g : He => g.1) m2 xa with
    | none =>
     have hl := askHo_miss (H2.out w1 hb1) hkl hfi
     clear hE hp1 hrg hrg1 hg1 hb hb1 hs1 hkl
     go_wp2_with (at_lookup; refine wpL_ask rfl _ _ 74 rfl b2 _ _ rfl rfl hl ?_)
     go_ret
     exact ⟨false, rfl, ⟨fun e9 => (by cases e9), fun e9 => absurd e9 (HE.out.miss HP.out hfi)⟩, HB1.out⟩
    | some y =>
     obtain ⟨ya, yp⟩ := y
     have hl := askHo_hit (H2.out w1 hb1) hkl hfi
     have hya : ya = xa := (findN_mem hfi).2
     clear hE hp1 hrg hrg1 hg1 hb hb1 hs1 hkl
     by_cases hxy : xp = yp
     ·have HS : Hid (EqS _ m1 m2 (d ++ [(xa, xp)]) t') := HE.out.step HP.out (by rw [hfi, hya, hxy])
      have hd : (xp != yp) = false := by simp [hxy]
      go_wp2_with (at_lookup; refine wpL_ask rfl _ _ 74 rfl b2 _ _ rfl rfl hl ?_)
      go_roundw
      case rel => exact ⟨_, t', HS.out, HR1.out, HB1.out⟩
      case measure => show World.rangeLeft _ _ _ < _; rw [HM.out]; exact Nat.lt_succ_self _
     ·have hd : (xp != yp) = true := by simp [hxy]
      go_wp2_with (at_lookup; refine wpL_ask rfl _ _ 74 rfl b2 _ _ rfl rfl hl ?_)
      go_ret
      exact ⟨false, rfl, ⟨fun e9 => (by cases e9), fun e9 => absurd e9 (HE.out.other HP.out HN2.out hfi (fun e9 => hxy (congrArg Prod.snd e9)))⟩, HB1.out⟩
 ·have HLe : Hid (¬ m1.Perm m2) := fun e9 => hll (by have := e9.length_eq; omega)
  have hll' : (l1 : Int) ≠ (l2 : Int) := by omega
  clear q1 q2
  go_wp2_with (first
   | (at_len; refine wpL_len rfl _ 74 rfl 9 3 Tryz.underlying74 b1 _ l1 hl1 rfl h1 ?_)
   | (at_len; refine wpL_len rfl _ 74 rfl 9 3 Tryz.underlying74 b2 _ l2 hl2 rfl h2 ?_))
  go_ret
  exact ⟨false, rfl, ⟨fun e9 => (by cases e9), fun e9 => absurd e9 HLe.out⟩, Below.refl _ _⟩
end Go.Proofs.YtefkchmahcjleaaGreatDoor
