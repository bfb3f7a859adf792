/-
 What the reference's CostOf answers of entries: layers and what went by them, or the first error and its place, or that there are no such goods; nothing old is turned.
-/
import Derived.Test.YtpnmbomjnpheeaaGreatDoorJz39
import Derived.BigQuiet
set_option maxRecDepth 100000
set_option maxHeartbeats 16000000
namespace Go.Proofs.YtpnmbomjnpheeaaGreatDoor
open Go.RowKit Go.Lib Go.Sort
theorem bareN (w : World) : Calls Tryz.prog 23 #[.int .i64 6] w fun e w' => e = .returned (.agg #[.int .i64 6, .int .i64 (-1)]) ∧ Below w.heap.size w w' := by
 go_enter Tryz.func23, Tryz.ntmps23
 go_wp2
 refine bodyPost_ret (v := .agg #[.int .i64 6, .int .i64 (-1)]) (by simp [results, Tryz.results23, go_sem]) rfl ⟨rfl, ?_⟩
 repeat (first | exact Below.refl _ _ | (refine Below.setCell ?_ (by (try simp); (try omega)) _) | (refine Below.alloc ?_ (by (try simp); (try omega)) _) | (refine Below.drew ?_))
theorem goods_find (b : Bk) (c : ByteArray) : (isGoods b c = true ∧ ∃ i : Nat, findI nameG b.1 c = i) ∨ (isGoods b c = false ∧ findI nameG b.1 c = -1) := by
 unfold isGoods
 rcases findI_cases nameG b.1 c with ⟨h1, h2⟩ | ⟨i, x, h1, h2, _⟩
 ·rcases findN_cases nameG b.1 c with ⟨h3, _⟩ | ⟨x, _, hx, e⟩
  ·exact Or.inr ⟨by rw [h3]; rfl, h1⟩
  ·exact absurd e (h2 x hx)
 ·exact Or.inl ⟨by rw [findN_at h1 h2]; rfl, i, h1⟩
theorem lyK_same (l : List En) (code : ByteArray) (k : Nat) : IntKind.i64.wrap ((lyK l code k).2 + 0) = (lyK l code k).2 := by
 have hb : -9223372036854775808 ≤ (lyK l code k).2 ∧ (lyK l code k).2 ≤ 9223372036854775807 := by
  induction k with
  | zero =>
   show -9223372036854775808 ≤ (0 : Int) ∧ (0 : Int) ≤ 9223372036854775807
   decide
  | succ k ih =>
   cases he : l[k]? with
   | none =>
    have e : lyK l code (k + 1) = lyK l code k := by
     show (match l[k]? with | some e => _ | none => _) = _
     rw [he]
    rw [e]; exact ih
   | some e =>
    rw [lyK_succ he]
    show -9223372036854775808 ≤ IntKind.i64.wrap _ ∧ IntKind.i64.wrap _ ≤ 9223372036854775807
    rw [IntKind.wrap_i64]; omega
 rw [IntKind.wrap_i64]; omega
def BlkX (w : World) (q : Nat) (x : Lo) : Prop := w.heap[q]? = some (.cells #[.string x.1, .string x.2.1, .int .i64 x.2.2.1, .int .i64 x.2.2.2] 46 (0, 0))
theorem BlkX.cells {w : World} {q : Nat} {x : Lo} (h : BlkX w q x) : w.cell? ⟨q, 0, none⟩ = some (.string x.1) ∧ w.cell? ⟨q, 1, none⟩ = some (.string x.2.1) ∧ w.cell? ⟨q, 2, none⟩ = some (.int .i64 x.2.2.1) ∧ w.cell? ⟨q, 3, none⟩ = some (.int .i64 x.2.2.2) :=
 ⟨by rw [cell_of_heap h]; rfl, by rw [cell_of_heap h]; rfl, by rw [cell_of_heap h]; rfl, by rw [cell_of_heap h]; rfl⟩
def RofK (w : World) (l : List En) (code : ByteArray) (r : Ending) (w' : World) : Prop :=
 ((∀ j, j < l.length → erK l code j = 0) ∧ isGoods (bkTo l l.length) code = true ∧ r = .returned (.tuple #[ptrK (w.heap.size + 2), .int .i64 (lyK l code l.length).2, .agg #[.int .i64 0, .int .i64 (-1)]]) ∧ RefY w' (w.heap.size + 1) (w.heap.size + 2) (lyK l code l.length).1) ∨
 ((∀ j, j < l.length → erK l code j = 0) ∧ isGoods (bkTo l l.length) code = false ∧ r = .returned (.tuple #[nilP, .int .i64 0, .agg #[.int .i64 6, .int .i64 (-1)]])) ∨
 ∃ k, k < l.length ∧ (∀ j, j < k → erK l code j = 0) ∧ erK l code k ≠ 0 ∧ r = .returned (.tuple #[nilP, .int .i64 0, .agg #[.int .i64 (erK l code k), .int .i64 k]])
theorem rof_any (pp : Option Addr) (l : List En) (cap : Nat) (code : ByteArray) (w : World) (hz : ∀ e ∈ l, SzE e) (hr : l = [] ∨ ∃ bq off, pp = some ⟨bq, off, none⟩ ∧ Ents w bq off l) (h700 : l.length ≤ 700) :
  Calls Tryz.prog 7 #[.slice pp l.length cap, .string code] w fun r w' => RofK w l code r w' ∧ Below w.heap.size w w' := by
 have n1 := heap_alloc_new w (.cells #[.int .i64 0, .int .i64 0] 32)
 have hW1 : Below w.heap.size w (w.alloc (.cells #[.int .i64 0, .int .i64 0] 32)) := (Below.refl _ w).alloc (Nat.le_refl _) _
 have s1 : (w.alloc (.cells #[.int .i64 0, .int .i64 0] 32)).heap.size = w.heap.size + 1 := by simp
 obtain ⟨U1, hU1⟩ : ∃ U1, w.alloc (.cells #[.int .i64 0, .int .i64 0] 32) = U1 := ⟨_, rfl⟩
 rw [hU1] at n1 hW1 s1
 have nB := RefB.new U1
 have b2 : Below U1.heap.size U1 (U1.alloc (.cells #[.slice none 0 0, .slice none 0 0, .slice none 0 0] 66)) := (Below.refl _ _).alloc (Nat.le_refl _) _
 have s2 : (U1.alloc (.cells #[.slice none 0 0, .slice none 0 0, .slice none 0 0] 66)).heap.size = w.heap.size + 2 := by simp [s1]
 obtain ⟨U2, hU2⟩ : ∃ U2, U1.alloc (.cells #[.slice none 0 0, .slice none 0 0, .slice none 0 0] 66) = U2 := ⟨_, rfl⟩
 rw [hU2] at nB b2 s2
 have n3 := heap_alloc_new U2 (.cells #[.slice none 0 0] 69)
 have b3 : Below U2.heap.size U2 (U2.alloc (.cells #[.slice none 0 0] 69)) := (Below.refl _ _).alloc (Nat.le_refl _) _
 obtain ⟨U3, hU3⟩ : ∃ U3, U2.alloc (.cells #[.slice none 0 0] 69) = U3 := ⟨_, rfl⟩
 rw [hU3] at n3 b3
 rw [s1] at nB b2
 rw [s2] at n3 b3
 have HNew : Hid (Rb U1 (w.heap.size + 1) ([], [], []) [] U3) := ⟨nB.below (by rw [s2]; exact b3), ⟨⟨_, n3, World.ownsRow_nil _ _ _ _⟩, by omega⟩, b2.trans (b3.mono (by omega))⟩
 have HRet : Hid (∀ W b m, Rb U1 (w.heap.size + 1) b m W → Below w.heap.size w W ∧ ∀ c d : Int, ∃ W4 W5 : World, W.setCell ⟨w.heap.size, 0, none⟩ (.int .i64 c) = W4 ∧ W4.setCell ⟨w.heap.size, 1, none⟩ (.int .i64 d) = W5 ∧ (W.cell? ⟨w.heap.size, 0, none⟩ = some (.int .i64 0) ∧ W.cell? ⟨w.heap.size, 1, none⟩ = some (.int .i64 0) ∧ ∀ o, W.frozen? ⟨w.heap.size, o, none⟩ = false) ∧ (W4.cell? ⟨w.heap.size, 1, none⟩ = some (.int .i64 0) ∧ ∀ o, W4.frozen? ⟨w.heap.size, o, none⟩ = false) ∧ W5.cell? ⟨w.heap.size, 0, none⟩ = some (.int .i64 c) ∧ W5.cell? ⟨w.heap.size, 1, none⟩ = some (.int .i64 d) ∧ Below w.heap.size w W5 ∧ RefY W5 (w.heap.size + 1) (w.heap.size + 2) m) := fun W b m h => by
  have hbw := hW1.trans (h.B.mono (Nat.le_succ _))
  refine ⟨hbw, fun c d => ?_⟩
  have hf := (h.B.block w.heap.size (Nat.lt_succ_self _)).trans n1
  obtain ⟨W4, W5, e4, e5, t1, t2, t3, t4, tfar, tb⟩ := two_set hf (.int .i64 c) (.int .i64 d)
  refine ⟨W4, W5, e4, e5, t1, t2, t3, t4, tb _ _ (Nat.le_refl _) hbw, ?_⟩
  obtain ⟨v, h1, h2⟩ := h.Y.ex
  exact ⟨⟨v, (tfar _ (blk_neY h1 hf (by decide))).trans h1, h2.kept fun g hg => by
   obtain ⟨c9, hk⟩ := h2.kind hg
   exact tfar _ (blk_neY hk hf (by decide))⟩, h.Y.lo⟩
 have HZ : Hid (∀ e ∈ l, SzE e) := hz
 have HEn : Hid (∀ W k e, l[k]? = some e → Below w.heap.size w W → ∃ bq off, pp = some ⟨bq, off, none⟩ ∧ EntO W bq (off + k * 14) e) := fun W k e he hb => by
  rcases hr with rfl | ⟨bq, off, h1, h2⟩
  ·simp at he
  ·exact ⟨bq, off, h1, (h2.below h2.lt hb).at_ k e he⟩
 have HG := goods_find (bkTo l l.length) code
 unfold RofK
 obtain ⟨ln, hln⟩ : ∃ ln, l.length = ln := ⟨_, rfl⟩
 have HL : Hid (ln = l.length) := hln.symm
 rw [hln] at h700 HG ⊢
 have HGo : Hid (_ ∨ _) := HG
 clear hz hr hln HG nB n1 n3 b2 b3 hW1
 go_enter Tryz.func7, Tryz.ntmps7
 go_wp2
 clear hU1 hU2 hU3 s1 s2
 go_loopw [9, 10] (fun va vi wr => ∃ k : Nat, k ≤ ln ∧ vi = .int .i64 k ∧ va = .int .i64 (lyK l code k).2 ∧ (∀ j, j < k → erK l code j = 0) ∧ Rb U1 (w.heap.size + 1) (bkTo l k) (lyK l code k).1 wr) (fun _ vi _ => ln - (RowKit.intOf vi).toNat)
 case atStart => exact ⟨0, Nat.zero_le _, rfl, rfl, fun j hj => absurd hj (Nat.not_lt_zero _), HNew.out⟩
 case round =>
  obtain ⟨k, hk, rfl, rfl, hno, hK⟩ := hrel
  have HNo : Hid (∀ j, j < k → erK l code j = 0) := hno
  have HKk : Hid (Rb _ _ _ _ _) := hK
  clear hno
  by_cases hlt : k < ln
  ·have hkm : k < l.length := by rw [← HL.out]; exact hlt
   obtain ⟨e, he⟩ : ∃ e, l[k]? = some e := ⟨_, List.getElem?_eq_getElem hkm⟩
   have hze := HZ.out e (List.mem_of_getElem? he)
   obtain ⟨bq, off, rfl, hE⟩ := HEn.out wr k e he (HRet.out wr _ _ hK).1
   have hE3 := BlkE.new wr e
   have hb3 : Below wr.heap.size wr (wr.alloc (celE e)) := (Below.refl _ wr).alloc (Nat.le_refl _) _
   obtain ⟨W3, hW3⟩ : ∃ W3, wr.alloc (celE e) = W3 := ⟨_, rfl⟩
   rw [hW3] at hE3 hb3
   have hK3 := hK.on hb3
   have hok := bkTo_ok l k
   have hok1 := bkTo_ok l (k + 1)
   have hb1e := bkTo_succ he
   have hly := lyK_succ he code
   have her := erK_eq he code
   have hlo := lyK_ok l code k
   have hsame := lyK_same l code k
   have HD : Hid (Calls Tryz.prog 18 #[.pointer (some ⟨w.heap.size + 1, 0, none⟩), agE e] W3 fun r w' => r = .returned (.int .i64 (doB (bkTo l k) e).2) ∧ Rb U1 (w.heap.size + 1) (bkTo l (k + 1)) (lyK l code k).1 w' ∧ BlkE w' wr.heap.size e) := (hK3.do_ hze hok.wf).mono fun r w' ⟨h1, h2, h3⟩ => ⟨h1, by rw [hb1e]; exact h2, h3.other hE3 (by unfold refT; decide)⟩
   have HFL : Hid (∀ W, Rb U1 (w.heap.size + 1) (bkTo l (k + 1)) (lyK l code k).1 W → Calls Tryz.prog 19 #[.pointer (some ⟨w.heap.size + 1, 0, none⟩), .string e.2.2.1.1] W fun r w' => r = .returned (.int .i64 (findI nameL (bkTo l (k + 1)).2.1 e.2.2.1.1)) ∧ w' = W) := fun W h => h.lot_ hok1 e.2.2.1.1
   obtain ⟨c0, c1, c2, c3, c4, c5, c6, c7, c8, c9, c10, c11, c12, c13⟩ := hE
   obtain ⟨t0, t1, t2, t3, t4, t5, t6, t7, t8, t9, t10, t11, t12, t13⟩ := hE3.at
   clear hkm hK hE3 hb3 hK3 hok1
   by_cases hD0 : (doB (bkTo l k) e).2 = 0
   case neg =>
    as_aux_lemma =>
     have HC : Hid (erK l code k = (doB (bkTo l k) e).2) := by show _ = _; rw [her, step_err hD0]
     generalize findI nameL (bkTo l (k + 1)).2.1 e.2.2.1.1 = kI at *
     generalize (doB (bkTo l k) e).2 = E at *
     have HE0 : Hid (E ≠ 0) := hD0
     have z0 : ((E : Int) == 0) = false := by simp; omega
     have z1 : (0 : Int) < (E : Int) := by omega
     generalize bkTo l (k + 1) = b1 at *
     generalize (lyK l code k).1 = m at *
     generalize (lyK l code k).2 = zz at *
     clear hly her hlo hsame hze hok hb1e hD0 he
     obtain ⟨ak, ⟨agc, agp⟩, ⟨ali, alc, alu, alk⟩, ⟨afz, afr, afb⟩, ⟨atz, atr, atb⟩, an⟩ := e
     unfold agE at HD
     unfold celE at hW3
     simp only at c0 c1 c2 c3 c4 c5 c6 c7 c8 c9 c10 c11 c12 c13 t0 t1 t2 t3 t4 t5 t6 t7 t8 t9 t10 t11 t12 t13 HD HFL hW3
     go_wp2_with (first
      | (go_at_call 18; refine HD.out.mono ?_; rintro r w5 ⟨rfl, hK5, hE5⟩; have HK5 : Hid (Rb _ _ _ _ _) := hK5; have HE5 : Hid (BlkE w5 wr.heap.size _) := hE5; obtain ⟨s0, s1, s2, s3, s4, s5, s6, s7, s8, s9, s10, s11, s12, s13⟩ := hE5.at; (try simp only at s0 s1 s2 s3 s4 s5 s6 s7 s8 s9 s10 s11 s12 s13); clear hK5 hE5 t0 t1 t2 t3 t4 t5 t6 t7 t8 t9 t10 t11 t12 t13)
      | (go_at_call 19; refine (HFL.out _ HK5.out).mono ?_; rintro r w6 ⟨rfl, hw6⟩; have hw6' := hw6.symm; subst hw6'; obtain ⟨W7, W8, e7, e8, ⟨y0, y1, yf⟩, ⟨y2, yg⟩, y3, y4, yb, _⟩ := (HRet.out _ _ _ HK5.out).2 (E : Int) (k : Int)))
     refine bodyPost_ret (v := .tuple #[nilP, .int .i64 0, .agg #[.int .i64 (E : Int), .int .i64 k]]) (by simp [results, Tryz.results7, go_sem, y3, y4]) rfl ⟨Or.inr (Or.inr ⟨k, by omega, HNo.out, by rw [HC.out]; exact HE0.out, by rw [HC.out]⟩), yb⟩
   have HE00 := hD0
   rw [hD0] at HD
   rcases findI_cases nameL (bkTo l (k + 1)).2.1 e.2.2.1.1 with ⟨hI, _⟩ | ⟨kL, x, hI, hx, _⟩
   ·as_aux_lemma =>
     have hst := step_no (m := (lyK l code k).1) (code := code) hok.wf hD0 (by rw [← hb1e, hI]; decide)
     rw [hst] at hly her
     have HC : Hid (erK l code k = 0) := her
     have HV : Hid ((lyK l code (k + 1)).2 = (lyK l code k).2) := by show _ = _; rw [hly]; exact hsame
     have HM : Hid ((lyK l code (k + 1)).1 = (lyK l code k).1) := by show _ = _; rw [hly]
     rw [hI] at HFL
     generalize hb1 : bkTo l (k + 1) = b1 at *
     have HB1 : Hid (bkTo l (k + 1) = b1) := hb1
     clear hb1
     generalize (lyK l code k).1 = m at *
     generalize (lyK l code k).2 = zz at *
     clear hly her hlo hsame hze hok hb1e hD0 he hst hI HE00
     obtain ⟨ak, ⟨agc, agp⟩, ⟨ali, alc, alu, alk⟩, ⟨afz, afr, afb⟩, ⟨atz, atr, atb⟩, an⟩ := e
     unfold agE at HD
     unfold celE at hW3
     simp only at c0 c1 c2 c3 c4 c5 c6 c7 c8 c9 c10 c11 c12 c13 t0 t1 t2 t3 t4 t5 t6 t7 t8 t9 t10 t11 t12 t13 HD HFL hW3
     go_wp2_with (first
      | (go_at_call 18; refine HD.out.mono ?_; rintro r w5 ⟨rfl, hK5, hE5⟩; have HK5 : Hid (Rb _ _ _ _ _) := hK5; have HE5 : Hid (BlkE w5 wr.heap.size _) := hE5; obtain ⟨s0, s1, s2, s3, s4, s5, s6, s7, s8, s9, s10, s11, s12, s13⟩ := hE5.at; (try simp only at s0 s1 s2 s3 s4 s5 s6 s7 s8 s9 s10 s11 s12 s13); clear hK5 hE5 t0 t1 t2 t3 t4 t5 t6 t7 t8 t9 t10 t11 t12 t13)
      | (go_at_call 19; refine (HFL.out _ HK5.out).mono ?_; rintro r w6 ⟨rfl, hw6⟩; have hw6' := hw6.symm; subst hw6'))
     go_roundw
     case rel => exact ⟨k + 1, by omega, by go_num, by rw [HV.out], fun j hj => by
      rcases Nat.lt_or_ge j k with h | h
      ·exact HNo.out j h
      ·obtain rfl : j = k := by omega
       exact HC.out, by rw [HM.out, HB1.out]; exact HK5.out⟩
     case measure => simp [RowKit.intOf]; omega
   have hkL : kL < (bkTo l (k + 1)).2.1.length := (List.getElem?_eq_some_iff.1 hx).1
   have h60 := (bkTo_ok l (k + 1)).wf.ll
   have HLc : Hid (∀ W, Rb U1 (w.heap.size + 1) (bkTo l (k + 1)) (lyK l code k).1 W → ∃ g cap, W.cell? ⟨w.heap.size + 1, 1, none⟩ = some (.slice (some ⟨g, 0, none⟩) (bkTo l (k + 1)).2.1.length cap) ∧ W.cell? ⟨g, kL * 5, none⟩ = some (.string x.1.1) ∧ W.cell? ⟨g, kL * 5 + 1, none⟩ = some (.string x.1.2.1) ∧ W.cell? ⟨g, kL * 5 + 2, none⟩ = some (.int .i64 x.1.2.2.1) ∧ W.cell? ⟨g, kL * 5 + 3, none⟩ = some (.int .i64 x.1.2.2.2)) := fun W h => h.lotCells hx
   have HBx : Hid (∀ W, Rb U1 (w.heap.size + 1) (bkTo l (k + 1)) (lyK l code k).1 W → BlkE W wr.heap.size e → ∃ WA, W.alloc (.cells #[.string x.1.1, .string x.1.2.1, .int .i64 x.1.2.2.1, .int .i64 x.1.2.2.2] 46) = WA ∧ Rb U1 (w.heap.size + 1) (bkTo l (k + 1)) (lyK l code k).1 WA ∧ BlkE WA wr.heap.size e ∧ BlkX WA W.heap.size x.1) := fun W h hB => by
    have hb : Below W.heap.size W (W.alloc (.cells #[.string x.1.1, .string x.1.2.1, .int .i64 x.1.2.2.1, .int .i64 x.1.2.2.2] 46)) := (Below.refl _ W).alloc (Nat.le_refl _) _
    exact ⟨_, rfl, h.on hb, hB.below hb, heap_alloc_new W _⟩
   have HIn : Hid (∀ W q, Rb U1 (w.heap.size + 1) (bkTo l (k + 1)) (lyK l code k).1 W → BlkE W wr.heap.size e → BlkX W q x.1 → Calls Tryz.prog 20 #[ptrK (w.heap.size + 2), .int .i64 e.2.2.2.2.2, .int .i64 x.1.2.2.2] W fun r w' => r = .returned (.int .i64 (inE (lyK l code k).1 e.2.2.2.2.2 x.1.2.2.2)) ∧ Rb U1 (w.heap.size + 1) (bkTo l (k + 1)) (inL (lyK l code k).1 e.2.2.2.2.2 x.1.2.2.2) w' ∧ BlkE w' wr.heap.size e ∧ BlkX w' q x.1) := fun W q h hB hX => (h.in_ hlo.1 (by omega) _ _).mono fun r w' ⟨h1, h2, h3⟩ => ⟨h1, h2, h3.other hB (by decide) (by decide), h3.other hX (by decide) (by decide)⟩
   have HOut : Hid (∀ W, Rb U1 (w.heap.size + 1) (bkTo l (k + 1)) (lyK l code k).1 W → Calls Tryz.prog 21 #[ptrK (w.heap.size + 2), .int .i64 e.2.2.2.2.2] W fun r w' => r = .returned (.tuple #[.int .i64 (outN (lyK l code k).1 e.2.2.2.2.2), .int .i64 (outE (lyK l code k).1 e.2.2.2.2.2)]) ∧ Rb U1 (w.heap.size + 1) (bkTo l (k + 1)) (outL (lyK l code k).1 e.2.2.2.2.2) w') := fun W h => (h.out_ hlo.1 (by omega) _).mono fun r w' ⟨h1, h2, _⟩ => ⟨h1, h2⟩
   have hI' := hI
   rw [hb1e] at hI' hx
   rw [hI] at HFL
   have e3 := same_eq x.1.2.1 code
   have zk : (0 : Int) ≤ (kL : Int) := by omega
   have zk2 : decide ((kL : Int) ≥ 0) = true := decide_eq_true zk
   by_cases hc : x.1.2.1 = code
   case neg =>
    as_aux_lemma =>
     have hst := step_far (m := (lyK l code k).1) hD0 hI' hx hc
     rw [hst] at hly her
     have HC : Hid (erK l code k = 0) := her
     have HV : Hid ((lyK l code (k + 1)).2 = (lyK l code k).2) := by show _ = _; rw [hly]; exact hsame
     have HM : Hid ((lyK l code (k + 1)).1 = (lyK l code k).1) := by show _ = _; rw [hly]
     rw [decide_eq_false hc] at e3
     generalize hb1 : bkTo l (k + 1) = b1 at *
     have HB1 : Hid (bkTo l (k + 1) = b1) := hb1
     clear hb1
     generalize (lyK l code k).1 = m at *
     generalize hzz : (lyK l code k).2 = zz at *
     clear hzz
     obtain ⟨L2, hL2⟩ : ∃ L2, b1.2.1.length = L2 := ⟨_, rfl⟩
     rw [hL2] at HLc hkL h60
     obtain ⟨⟨xi, xc, xu, xk⟩, xh⟩ := x
     clear hly her hlo hsame hze hok hb1e hD0 he hst hI hI' hx HE00 hL2 hc
     obtain ⟨ak, ⟨agc, agp⟩, ⟨ali, alc, alu, alk⟩, ⟨afz, afr, afb⟩, ⟨atz, atr, atb⟩, an⟩ := e
     unfold agE at HD
     unfold celE at hW3
     simp only at c0 c1 c2 c3 c4 c5 c6 c7 c8 c9 c10 c11 c12 c13 t0 t1 t2 t3 t4 t5 t6 t7 t8 t9 t10 t11 t12 t13 HD HFL hW3 HLc HBx HIn HOut e3 
     go_wp2_with (first
      | (go_at_call 18; refine HD.out.mono ?_; rintro r w5 ⟨rfl, hK5, hE5⟩; have HK5 : Hid (Rb _ _ _ _ _) := hK5; have HE5 : Hid (BlkE w5 wr.heap.size _) := hE5; obtain ⟨s0, s1, s2, s3, s4, s5, s6, s7, s8, s9, s10, s11, s12, s13⟩ := hE5.at; (try simp only at s0 s1 s2 s3 s4 s5 s6 s7 s8 s9 s10 s11 s12 s13); clear hK5 hE5 t0 t1 t2 t3 t4 t5 t6 t7 t8 t9 t10 t11 t12 t13)
      | (go_at_call 19; refine (HFL.out _ HK5.out).mono ?_; rintro r w6 ⟨rfl, hw6⟩; have hw6' := hw6.symm; subst hw6'; obtain ⟨g, gcap, l1, l2, l3, l4, l5⟩ := HLc.out w5 HK5.out; obtain ⟨WA, hal, hkA, hEA, hXA⟩ := HBx.out w5 HK5.out HE5.out; have HKA : Hid (Rb _ _ _ _ WA) := hkA; have HEA : Hid (BlkE WA wr.heap.size _) := hEA; have HXA : Hid (BlkX WA w5.heap.size _) := hXA; obtain ⟨s0, s1, s2, s3, s4, s5, s6, s7, s8, s9, s10, s11, s12, s13⟩ := hEA.at; obtain ⟨d0, d1, d2, d3⟩ := hXA.cells; (try simp only at s0 s1 s2 s3 s4 s5 s6 s7 s8 s9 s10 s11 s12 s13 d0 d1 d2 d3 hal); clear hkA hEA hXA))
     go_roundw
     case rel => exact ⟨k + 1, by omega, by go_num, by rw [HV.out], fun j hj => by
      rcases Nat.lt_or_ge j k with h | h
      ·exact HNo.out j h
      ·obtain rfl : j = k := by omega
       exact HC.out, by rw [HM.out, HB1.out]; exact HKA.out⟩
     case measure => simp [RowKit.intOf]; omega
   rw [decide_eq_true hc] at e3
   have hap : kIn ≠ kMore ∧ kIn ≠ kOut ∧ kIn ≠ kLess ∧ kMore ≠ kIn ∧ kMore ≠ kOut ∧ kMore ≠ kLess ∧ kOut ≠ kIn ∧ kOut ≠ kMore ∧ kOut ≠ kLess ∧ kLess ≠ kIn ∧ kLess ≠ kMore ∧ kLess ≠ kOut := by decide
   obtain ⟨a1, a2, a3, a4, a5, a6, a7, a8, a9, a10, a11, a12⟩ := hap
   by_cases hi : e.1 = kIn ∨ e.1 = kMore
   ·by_cases hE0 : inE (lyK l code k).1 e.2.2.2.2.2 x.1.2.2.2 = 0
    ·rcases (show e.1 = kIn ∨ e.1 = kMore from hi) with hw | hw
     ·as_aux_lemma =>
       have hst := step_in (m := (lyK l code k).1) hD0 hI' hx hc hi
       rw [hst] at hly her
       have x1 := same_wordR hw
       have x2 := other_word (k := e.1) (z := kMore) (by rw [hw]; exact a1)
       have x3 := other_word (k := e.1) (z := kOut) (by rw [hw]; exact a2)
       have x4 := other_word (k := e.1) (z := kLess) (by rw [hw]; exact a3)
       clear a1 a2 a3 a4 a5 a6 a7 a8 a9 a10 a11 a12 hw
       have HC : Hid (erK l code k = 0) := by show _ = _; rw [her]; exact hE0
       have HV : Hid ((lyK l code (k + 1)).2 = (lyK l code k).2) := by show _ = _; rw [hly]; exact hsame
       have HM : Hid ((lyK l code (k + 1)).1 = inL (lyK l code k).1 e.2.2.2.2.2 x.1.2.2.2) := by show _ = _; rw [hly]
       rw [hE0] at HIn
       generalize inL (lyK l code k).1 e.2.2.2.2.2 x.1.2.2.2 = m2 at *
       generalize hb1 : bkTo l (k + 1) = b1 at *
       have HB1 : Hid (bkTo l (k + 1) = b1) := hb1
       clear hb1
       generalize (lyK l code k).1 = m at *
       generalize hzz : (lyK l code k).2 = zz at *
       clear hzz
       obtain ⟨L2, hL2⟩ : ∃ L2, b1.2.1.length = L2 := ⟨_, rfl⟩
       rw [hL2] at HLc hkL h60
       obtain ⟨⟨xi, xc, xu, xk⟩, xh⟩ := x
       clear hly her hlo hsame hze hok hb1e hD0 he hst hI hI' hx HE00 hL2 hc hi hE0 HOut
       obtain ⟨ak, ⟨agc, agp⟩, ⟨ali, alc, alu, alk⟩, ⟨afz, afr, afb⟩, ⟨atz, atr, atb⟩, an⟩ := e
       unfold agE at HD
       unfold celE at hW3
       simp only at c0 c1 c2 c3 c4 c5 c6 c7 c8 c9 c10 c11 c12 c13 t0 t1 t2 t3 t4 t5 t6 t7 t8 t9 t10 t11 t12 t13 HD HFL hW3 HLc HBx HIn e3 x1 x2 x3 x4
       go_wp2_with (first
        | (go_at_call 18; refine HD.out.mono ?_; rintro r w5 ⟨rfl, hK5, hE5⟩; have HK5 : Hid (Rb _ _ _ _ _) := hK5; have HE5 : Hid (BlkE w5 wr.heap.size _) := hE5; obtain ⟨s0, s1, s2, s3, s4, s5, s6, s7, s8, s9, s10, s11, s12, s13⟩ := hE5.at; (try simp only at s0 s1 s2 s3 s4 s5 s6 s7 s8 s9 s10 s11 s12 s13); clear hK5 hE5 t0 t1 t2 t3 t4 t5 t6 t7 t8 t9 t10 t11 t12 t13)
        | (go_at_call 19; refine (HFL.out _ HK5.out).mono ?_; rintro r w6 ⟨rfl, hw6⟩; have hw6' := hw6.symm; subst hw6'; obtain ⟨g, gcap, l1, l2, l3, l4, l5⟩ := HLc.out w5 HK5.out; obtain ⟨WA, hal, hkA, hEA, hXA⟩ := HBx.out w5 HK5.out HE5.out; have HKA : Hid (Rb _ _ _ _ WA) := hkA; have HEA : Hid (BlkE WA wr.heap.size _) := hEA; have HXA : Hid (BlkX WA w5.heap.size _) := hXA; obtain ⟨s0, s1, s2, s3, s4, s5, s6, s7, s8, s9, s10, s11, s12, s13⟩ := hEA.at; obtain ⟨d0, d1, d2, d3⟩ := hXA.cells; (try simp only at s0 s1 s2 s3 s4 s5 s6 s7 s8 s9 s10 s11 s12 s13 d0 d1 d2 d3 hal); clear hkA hEA hXA)
        | (go_at_call 20; refine (HIn.out _ _ HKA.out HEA.out HXA.out).mono ?_; rintro r w9 ⟨rfl, hK9, hE9, hX9⟩; have HK9 : Hid (Rb _ _ _ _ w9) := hK9; clear s0 s1 s2 s3 s4 s5 s6 s7 s8 s9 s10 s11 s12 s13 d0 d1 d2 d3; obtain ⟨s0, s1, s2, s3, s4, s5, s6, s7, s8, s9, s10, s11, s12, s13⟩ := hE9.at; obtain ⟨d0, d1, d2, d3⟩ := hX9.cells; (try simp only at s0 s1 s2 s3 s4 s5 s6 s7 s8 s9 s10 s11 s12 s13 d0 d1 d2 d3); clear hK9 hE9 hX9))
       go_roundw
       case rel => exact ⟨k + 1, by omega, by go_num, by rw [HV.out], fun j hj => by
        rcases Nat.lt_or_ge j k with h | h
        ·exact HNo.out j h
        ·obtain rfl : j = k := by omega
         exact HC.out, by rw [HM.out, HB1.out]; exact HK9.out⟩
       case measure => simp [RowKit.intOf]; omega
     ·as_aux_lemma =>
       have hst := step_in (m := (lyK l code k).1) hD0 hI' hx hc hi
       rw [hst] at hly her
       have x1 := other_word (k := e.1) (z := kIn) (by rw [hw]; exact a4)
       have x2 := same_wordR hw
       have x3 := other_word (k := e.1) (z := kOut) (by rw [hw]; exact a5)
       have x4 := other_word (k := e.1) (z := kLess) (by rw [hw]; exact a6)
       clear a1 a2 a3 a4 a5 a6 a7 a8 a9 a10 a11 a12 hw
       have HC : Hid (erK l code k = 0) := by show _ = _; rw [her]; exact hE0
       have HV : Hid ((lyK l code (k + 1)).2 = (lyK l code k).2) := by show _ = _; rw [hly]; exact hsame
       have HM : Hid ((lyK l code (k + 1)).1 = inL (lyK l code k).1 e.2.2.2.2.2 x.1.2.2.2) := by show _ = _; rw [hly]
       rw [hE0] at HIn
       generalize inL (lyK l code k).1 e.2.2.2.2.2 x.1.2.2.2 = m2 at *
       generalize hb1 : bkTo l (k + 1) = b1 at *
       have HB1 : Hid (bkTo l (k + 1) = b1) := hb1
       clear hb1
       generalize (lyK l code k).1 = m at *
       generalize hzz : (lyK l code k).2 = zz at *
       clear hzz
       obtain ⟨L2, hL2⟩ : ∃ L2, b1.2.1.length = L2 := ⟨_, rfl⟩
       rw [hL2] at HLc hkL h60
       obtain ⟨⟨xi, xc, xu, xk⟩, xh⟩ := x
       clear hly her hlo hsame hze hok hb1e hD0 he hst hI hI' hx HE00 hL2 hc hi hE0 HOut
       obtain ⟨ak, ⟨agc, agp⟩, ⟨ali, alc, alu, alk⟩, ⟨afz, afr, afb⟩, ⟨atz, atr, atb⟩, an⟩ := e
       unfold agE at HD
       unfold celE at hW3
       simp only at c0 c1 c2 c3 c4 c5 c6 c7 c8 c9 c10 c11 c12 c13 t0 t1 t2 t3 t4 t5 t6 t7 t8 t9 t10 t11 t12 t13 HD HFL hW3 HLc HBx HIn e3 x1 x2 x3 x4
       go_wp2_with (first
        | (go_at_call 18; refine HD.out.mono ?_; rintro r w5 ⟨rfl, hK5, hE5⟩; have HK5 : Hid (Rb _ _ _ _ _) := hK5; have HE5 : Hid (BlkE w5 wr.heap.size _) := hE5; obtain ⟨s0, s1, s2, s3, s4, s5, s6, s7, s8, s9, s10, s11, s12, s13⟩ := hE5.at; (try simp only at s0 s1 s2 s3 s4 s5 s6 s7 s8 s9 s10 s11 s12 s13); clear hK5 hE5 t0 t1 t2 t3 t4 t5 t6 t7 t8 t9 t10 t11 t12 t13)
        | (go_at_call 19; refine (HFL.out _ HK5.out).mono ?_; rintro r w6 ⟨rfl, hw6⟩; have hw6' := hw6.symm; subst hw6'; obtain ⟨g, gcap, l1, l2, l3, l4, l5⟩ := HLc.out w5 HK5.out; obtain ⟨WA, hal, hkA, hEA, hXA⟩ := HBx.out w5 HK5.out HE5.out; have HKA : Hid (Rb _ _ _ _ WA) := hkA; have HEA : Hid (BlkE WA wr.heap.size _) := hEA; have HXA : Hid (BlkX WA w5.heap.size _) := hXA; obtain ⟨s0, s1, s2, s3, s4, s5, s6, s7, s8, s9, s10, s11, s12, s13⟩ := hEA.at; obtain ⟨d0, d1, d2, d3⟩ := hXA.cells; (try simp only at s0 s1 s2 s3 s4 s5 s6 s7 s8 s9 s10 s11 s12 s13 d0 d1 d2 d3 hal); clear hkA hEA hXA)
        | (go_at_call 20; refine (HIn.out _ _ HKA.out HEA.out HXA.out).mono ?_; rintro r w9 ⟨rfl, hK9, hE9, hX9⟩; have HK9 : Hid (Rb _ _ _ _ w9) := hK9; clear s0 s1 s2 s3 s4 s5 s6 s7 s8 s9 s10 s11 s12 s13 d0 d1 d2 d3; obtain ⟨s0, s1, s2, s3, s4, s5, s6, s7, s8, s9, s10, s11, s12, s13⟩ := hE9.at; obtain ⟨d0, d1, d2, d3⟩ := hX9.cells; (try simp only at s0 s1 s2 s3 s4 s5 s6 s7 s8 s9 s10 s11 s12 s13 d0 d1 d2 d3); clear hK9 hE9 hX9))
       go_roundw
       case rel => exact ⟨k + 1, by omega, by go_num, by rw [HV.out], fun j hj => by
        rcases Nat.lt_or_ge j k with h | h
        ·exact HNo.out j h
        ·obtain rfl : j = k := by omega
         exact HC.out, by rw [HM.out, HB1.out]; exact HK9.out⟩
       case measure => simp [RowKit.intOf]; omega
    ·rcases (show e.1 = kIn ∨ e.1 = kMore from hi) with hw | hw
     ·as_aux_lemma =>
       have hst := step_in (m := (lyK l code k).1) hD0 hI' hx hc hi
       rw [hst] at hly her
       have x1 := same_wordR hw
       have x2 := other_word (k := e.1) (z := kMore) (by rw [hw]; exact a1)
       have x3 := other_word (k := e.1) (z := kOut) (by rw [hw]; exact a2)
       have x4 := other_word (k := e.1) (z := kLess) (by rw [hw]; exact a3)
       clear a1 a2 a3 a4 a5 a6 a7 a8 a9 a10 a11 a12 hw
       have HC : Hid (erK l code k = inE (lyK l code k).1 e.2.2.2.2.2 x.1.2.2.2) := her
       generalize inE (lyK l code k).1 e.2.2.2.2.2 x.1.2.2.2 = E at *
       have HE0 : Hid (E ≠ 0) := hE0
       have z0 : ((E : Int) == 0) = false := by simp; omega
       have z1 : (0 : Int) < (E : Int) := by omega
       generalize inL (lyK l code k).1 e.2.2.2.2.2 x.1.2.2.2 = m2 at *
       generalize hb1 : bkTo l (k + 1) = b1 at *
       have HB1 : Hid (bkTo l (k + 1) = b1) := hb1
       clear hb1
       generalize (lyK l code k).1 = m at *
       generalize hzz : (lyK l code k).2 = zz at *
       clear hzz
       obtain ⟨L2, hL2⟩ : ∃ L2, b1.2.1.length = L2 := ⟨_, rfl⟩
       rw [hL2] at HLc hkL h60
       obtain ⟨⟨xi, xc, xu, xk⟩, xh⟩ := x
       clear hly her hlo hsame hze hok hb1e hD0 he hst hI hI' hx HE00 hL2 hc hi hE0 HOut
       obtain ⟨ak, ⟨agc, agp⟩, ⟨ali, alc, alu, alk⟩, ⟨afz, afr, afb⟩, ⟨atz, atr, atb⟩, an⟩ := e
       unfold agE at HD
       unfold celE at hW3
       simp only at c0 c1 c2 c3 c4 c5 c6 c7 c8 c9 c10 c11 c12 c13 t0 t1 t2 t3 t4 t5 t6 t7 t8 t9 t10 t11 t12 t13 HD HFL hW3 HLc HBx HIn e3 x1 x2 x3 x4
       go_wp2_with (first
        | (go_at_call 18; refine HD.out.mono ?_; rintro r w5 ⟨rfl, hK5, hE5⟩; have HK5 : Hid (Rb _ _ _ _ _) := hK5; have HE5 : Hid (BlkE w5 wr.heap.size _) := hE5; obtain ⟨s0, s1, s2, s3, s4, s5, s6, s7, s8, s9, s10, s11, s12, s13⟩ := hE5.at; (try simp only at s0 s1 s2 s3 s4 s5 s6 s7 s8 s9 s10 s11 s12 s13); clear hK5 hE5 t0 t1 t2 t3 t4 t5 t6 t7 t8 t9 t10 t11 t12 t13)
        | (go_at_call 19; refine (HFL.out _ HK5.out).mono ?_; rintro r w6 ⟨rfl, hw6⟩; have hw6' := hw6.symm; subst hw6'; obtain ⟨g, gcap, l1, l2, l3, l4, l5⟩ := HLc.out w5 HK5.out; obtain ⟨WA, hal, hkA, hEA, hXA⟩ := HBx.out w5 HK5.out HE5.out; have HKA : Hid (Rb _ _ _ _ WA) := hkA; have HEA : Hid (BlkE WA wr.heap.size _) := hEA; have HXA : Hid (BlkX WA w5.heap.size _) := hXA; obtain ⟨s0, s1, s2, s3, s4, s5, s6, s7, s8, s9, s10, s11, s12, s13⟩ := hEA.at; obtain ⟨d0, d1, d2, d3⟩ := hXA.cells; (try simp only at s0 s1 s2 s3 s4 s5 s6 s7 s8 s9 s10 s11 s12 s13 d0 d1 d2 d3 hal); clear hkA hEA hXA)
        | (go_at_call 20; refine (HIn.out _ _ HKA.out HEA.out HXA.out).mono ?_; rintro r w9 ⟨rfl, hK9, hE9, hX9⟩; have HK9 : Hid (Rb _ _ _ _ w9) := hK9; clear s0 s1 s2 s3 s4 s5 s6 s7 s8 s9 s10 s11 s12 s13 d0 d1 d2 d3; obtain ⟨s0, s1, s2, s3, s4, s5, s6, s7, s8, s9, s10, s11, s12, s13⟩ := hE9.at; obtain ⟨d0, d1, d2, d3⟩ := hX9.cells; (try simp only at s0 s1 s2 s3 s4 s5 s6 s7 s8 s9 s10 s11 s12 s13 d0 d1 d2 d3); clear hK9 hE9 hX9; obtain ⟨W7, W8, e7, e8, ⟨y0, y1, yf⟩, ⟨y2, yg⟩, y3, y4, yb, _⟩ := (HRet.out _ _ _ HK9.out).2 (E : Int) (k : Int)))
       refine bodyPost_ret (v := .tuple #[nilP, .int .i64 0, .agg #[.int .i64 (E : Int), .int .i64 k]]) (by simp [results, Tryz.results7, go_sem, y3, y4]) rfl ⟨Or.inr (Or.inr ⟨k, by omega, HNo.out, by rw [HC.out]; exact HE0.out, by rw [HC.out]⟩), yb⟩
     ·as_aux_lemma =>
       have hst := step_in (m := (lyK l code k).1) hD0 hI' hx hc hi
       rw [hst] at hly her
       have x1 := other_word (k := e.1) (z := kIn) (by rw [hw]; exact a4)
       have x2 := same_wordR hw
       have x3 := other_word (k := e.1) (z := kOut) (by rw [hw]; exact a5)
       have x4 := other_word (k := e.1) (z := kLess) (by rw [hw]; exact a6)
       clear a1 a2 a3 a4 a5 a6 a7 a8 a9 a10 a11 a12 hw
       have HC : Hid (erK l code k = inE (lyK l code k).1 e.2.2.2.2.2 x.1.2.2.2) := her
       generalize inE (lyK l code k).1 e.2.2.2.2.2 x.1.2.2.2 = E at *
       have HE0 : Hid (E ≠ 0) := hE0
       have z0 : ((E : Int) == 0) = false := by simp; omega
       have z1 : (0 : Int) < (E : Int) := by omega
       generalize inL (lyK l code k).1 e.2.2.2.2.2 x.1.2.2.2 = m2 at *
       generalize hb1 : bkTo l (k + 1) = b1 at *
       have HB1 : Hid (bkTo l (k + 1) = b1) := hb1
       clear hb1
       generalize (lyK l code k).1 = m at *
       generalize hzz : (lyK l code k).2 = zz at *
       clear hzz
       obtain ⟨L2, hL2⟩ : ∃ L2, b1.2.1.length = L2 := ⟨_, rfl⟩
       rw [hL2] at HLc hkL h60
       obtain ⟨⟨xi, xc, xu, xk⟩, xh⟩ := x
       clear hly her hlo hsame hze hok hb1e hD0 he hst hI hI' hx HE00 hL2 hc hi hE0 HOut
       obtain ⟨ak, ⟨agc, agp⟩, ⟨ali, alc, alu, alk⟩, ⟨afz, afr, afb⟩, ⟨atz, atr, atb⟩, an⟩ := e
       unfold agE at HD
       unfold celE at hW3
       simp only at c0 c1 c2 c3 c4 c5 c6 c7 c8 c9 c10 c11 c12 c13 t0 t1 t2 t3 t4 t5 t6 t7 t8 t9 t10 t11 t12 t13 HD HFL hW3 HLc HBx HIn e3 x1 x2 x3 x4
       go_wp2_with (first
        | (go_at_call 18; refine HD.out.mono ?_; rintro r w5 ⟨rfl, hK5, hE5⟩; have HK5 : Hid (Rb _ _ _ _ _) := hK5; have HE5 : Hid (BlkE w5 wr.heap.size _) := hE5; obtain ⟨s0, s1, s2, s3, s4, s5, s6, s7, s8, s9, s10, s11, s12, s13⟩ := hE5.at; (try simp only at s0 s1 s2 s3 s4 s5 s6 s7 s8 s9 s10 s11 s12 s13); clear hK5 hE5 t0 t1 t2 t3 t4 t5 t6 t7 t8 t9 t10 t11 t12 t13)
        | (go_at_call 19; refine (HFL.out _ HK5.out).mono ?_; rintro r w6 ⟨rfl, hw6⟩; have hw6' := hw6.symm; subst hw6'; obtain ⟨g, gcap, l1, l2, l3, l4, l5⟩ := HLc.out w5 HK5.out; obtain ⟨WA, hal, hkA, hEA, hXA⟩ := HBx.out w5 HK5.out HE5.out; have HKA : Hid (Rb _ _ _ _ WA) := hkA; have HEA : Hid (BlkE WA wr.heap.size _) := hEA; have HXA : Hid (BlkX WA w5.heap.size _) := hXA; obtain ⟨s0, s1, s2, s3, s4, s5, s6, s7, s8, s9, s10, s11, s12, s13⟩ := hEA.at; obtain ⟨d0, d1, d2, d3⟩ := hXA.cells; (try simp only at s0 s1 s2 s3 s4 s5 s6 s7 s8 s9 s10 s11 s12 s13 d0 d1 d2 d3 hal); clear hkA hEA hXA)
        | (go_at_call 20; refine (HIn.out _ _ HKA.out HEA.out HXA.out).mono ?_; rintro r w9 ⟨rfl, hK9, hE9, hX9⟩; have HK9 : Hid (Rb _ _ _ _ w9) := hK9; clear s0 s1 s2 s3 s4 s5 s6 s7 s8 s9 s10 s11 s12 s13 d0 d1 d2 d3; obtain ⟨s0, s1, s2, s3, s4, s5, s6, s7, s8, s9, s10, s11, s12, s13⟩ := hE9.at; obtain ⟨d0, d1, d2, d3⟩ := hX9.cells; (try simp only at s0 s1 s2 s3 s4 s5 s6 s7 s8 s9 s10 s11 s12 s13 d0 d1 d2 d3); clear hK9 hE9 hX9; obtain ⟨W7, W8, e7, e8, ⟨y0, y1, yf⟩, ⟨y2, yg⟩, y3, y4, yb, _⟩ := (HRet.out _ _ _ HK9.out).2 (E : Int) (k : Int)))
       refine bodyPost_ret (v := .tuple #[nilP, .int .i64 0, .agg #[.int .i64 (E : Int), .int .i64 k]]) (by simp [results, Tryz.results7, go_sem, y3, y4]) rfl ⟨Or.inr (Or.inr ⟨k, by omega, HNo.out, by rw [HC.out]; exact HE0.out, by rw [HC.out]⟩), yb⟩
   by_cases ho : e.1 = kOut ∨ e.1 = kLess
   ·by_cases hE0 : outE (lyK l code k).1 e.2.2.2.2.2 = 0
    ·rcases (show e.1 = kOut ∨ e.1 = kLess from ho) with hw | hw
     ·as_aux_lemma =>
       have hst := step_out (m := (lyK l code k).1) hD0 hI' hx hc hi ho
       rw [hst] at hly her
       have x1 := other_word (k := e.1) (z := kIn) (by rw [hw]; exact a7)
       have x2 := other_word (k := e.1) (z := kMore) (by rw [hw]; exact a8)
       have x3 := same_wordR hw
       have x4 := other_word (k := e.1) (z := kLess) (by rw [hw]; exact a9)
       clear a1 a2 a3 a4 a5 a6 a7 a8 a9 a10 a11 a12 hw
       have HC : Hid (erK l code k = 0) := by show _ = _; rw [her]; exact hE0
       have HV : Hid ((lyK l code (k + 1)).2 = wrap64 ((lyK l code k).2 + outN (lyK l code k).1 e.2.2.2.2.2)) := by show _ = _; rw [hly, wrap64_is]
       have HM : Hid ((lyK l code (k + 1)).1 = outL (lyK l code k).1 e.2.2.2.2.2) := by show _ = _; rw [hly]
       rw [hE0] at HOut
       generalize outL (lyK l code k).1 e.2.2.2.2.2 = m2 at *
       generalize outN (lyK l code k).1 e.2.2.2.2.2 = zn at *
       generalize hb1 : bkTo l (k + 1) = b1 at *
       have HB1 : Hid (bkTo l (k + 1) = b1) := hb1
       clear hb1
       generalize (lyK l code k).1 = m at *
       generalize hzz : (lyK l code k).2 = zz at *
       clear hzz
       obtain ⟨L2, hL2⟩ : ∃ L2, b1.2.1.length = L2 := ⟨_, rfl⟩
       rw [hL2] at HLc hkL h60
       obtain ⟨⟨xi, xc, xu, xk⟩, xh⟩ := x
       clear hly her hlo hsame hze hok hb1e hD0 he hst hI hI' hx HE00 hL2 hc hi ho hE0 HIn
       obtain ⟨ak, ⟨agc, agp⟩, ⟨ali, alc, alu, alk⟩, ⟨afz, afr, afb⟩, ⟨atz, atr, atb⟩, an⟩ := e
       unfold agE at HD
       unfold celE at hW3
       simp only at c0 c1 c2 c3 c4 c5 c6 c7 c8 c9 c10 c11 c12 c13 t0 t1 t2 t3 t4 t5 t6 t7 t8 t9 t10 t11 t12 t13 HD HFL hW3 HLc HBx HOut e3 x1 x2 x3 x4
       go_wp2_with (first
        | (go_at_call 18; refine HD.out.mono ?_; rintro r w5 ⟨rfl, hK5, hE5⟩; have HK5 : Hid (Rb _ _ _ _ _) := hK5; have HE5 : Hid (BlkE w5 wr.heap.size _) := hE5; obtain ⟨s0, s1, s2, s3, s4, s5, s6, s7, s8, s9, s10, s11, s12, s13⟩ := hE5.at; (try simp only at s0 s1 s2 s3 s4 s5 s6 s7 s8 s9 s10 s11 s12 s13); clear hK5 hE5 t0 t1 t2 t3 t4 t5 t6 t7 t8 t9 t10 t11 t12 t13)
        | (go_at_call 19; refine (HFL.out _ HK5.out).mono ?_; rintro r w6 ⟨rfl, hw6⟩; have hw6' := hw6.symm; subst hw6'; obtain ⟨g, gcap, l1, l2, l3, l4, l5⟩ := HLc.out w5 HK5.out; obtain ⟨WA, hal, hkA, hEA, hXA⟩ := HBx.out w5 HK5.out HE5.out; have HKA : Hid (Rb _ _ _ _ WA) := hkA; have HEA : Hid (BlkE WA wr.heap.size _) := hEA; have HXA : Hid (BlkX WA w5.heap.size _) := hXA; obtain ⟨s0, s1, s2, s3, s4, s5, s6, s7, s8, s9, s10, s11, s12, s13⟩ := hEA.at; obtain ⟨d0, d1, d2, d3⟩ := hXA.cells; (try simp only at s0 s1 s2 s3 s4 s5 s6 s7 s8 s9 s10 s11 s12 s13 d0 d1 d2 d3 hal); clear hkA hEA hXA)
        | (go_at_call 21; refine (HOut.out _ HKA.out).mono ?_; rintro r w9 ⟨rfl, hK9⟩; have HK9 : Hid (Rb _ _ _ _ w9) := hK9; clear hK9))
       go_roundw
       case rel => exact ⟨k + 1, by omega, by go_num, by rw [HV.out], fun j hj => by
        rcases Nat.lt_or_ge j k with h | h
        ·exact HNo.out j h
        ·obtain rfl : j = k := by omega
         exact HC.out, by rw [HM.out, HB1.out]; exact HK9.out⟩
       case measure => simp [RowKit.intOf]; omega
     ·as_aux_lemma =>
       have hst := step_out (m := (lyK l code k).1) hD0 hI' hx hc hi ho
       rw [hst] at hly her
       have x1 := other_word (k := e.1) (z := kIn) (by rw [hw]; exact a10)
       have x2 := other_word (k := e.1) (z := kMore) (by rw [hw]; exact a11)
       have x3 := other_word (k := e.1) (z := kOut) (by rw [hw]; exact a12)
       have x4 := same_wordR hw
       clear a1 a2 a3 a4 a5 a6 a7 a8 a9 a10 a11 a12 hw
       have HC : Hid (erK l code k = 0) := by show _ = _; rw [her]; exact hE0
       have HV : Hid ((lyK l code (k + 1)).2 = wrap64 ((lyK l code k).2 + outN (lyK l code k).1 e.2.2.2.2.2)) := by show _ = _; rw [hly, wrap64_is]
       have HM : Hid ((lyK l code (k + 1)).1 = outL (lyK l code k).1 e.2.2.2.2.2) := by show _ = _; rw [hly]
       rw [hE0] at HOut
       generalize outL (lyK l code k).1 e.2.2.2.2.2 = m2 at *
       generalize outN (lyK l code k).1 e.2.2.2.2.2 = zn at *
       generalize hb1 : bkTo l (k + 1) = b1 at *
       have HB1 : Hid (bkTo l (k + 1) = b1) := hb1
       clear hb1
       generalize (lyK l code k).1 = m at *
       generalize hzz : (lyK l code k).2 = zz at *
       clear hzz
       obtain ⟨L2, hL2⟩ : ∃ L2, b1.2.1.length = L2 := ⟨_, rfl⟩
       rw [hL2] at HLc hkL h60
       obtain ⟨⟨xi, xc, xu, xk⟩, xh⟩ := x
       clear hly her hlo hsame hze hok hb1e hD0 he hst hI hI' hx HE00 hL2 hc hi ho hE0 HIn
       obtain ⟨ak, ⟨agc, agp⟩, ⟨ali, alc, alu, alk⟩, ⟨afz, afr, afb⟩, ⟨atz, atr, atb⟩, an⟩ := e
       unfold agE at HD
       unfold celE at hW3
       simp only at c0 c1 c2 c3 c4 c5 c6 c7 c8 c9 c10 c11 c12 c13 t0 t1 t2 t3 t4 t5 t6 t7 t8 t9 t10 t11 t12 t13 HD HFL hW3 HLc HBx HOut e3 x1 x2 x3 x4
       go_wp2_with (first
        | (go_at_call 18; refine HD.out.mono ?_; rintro r w5 ⟨rfl, hK5, hE5⟩; have HK5 : Hid (Rb _ _ _ _ _) := hK5; have HE5 : Hid (BlkE w5 wr.heap.size _) := hE5; obtain ⟨s0, s1, s2, s3, s4, s5, s6, s7, s8, s9, s10, s11, s12, s13⟩ := hE5.at; (try simp only at s0 s1 s2 s3 s4 s5 s6 s7 s8 s9 s10 s11 s12 s13); clear hK5 hE5 t0 t1 t2 t3 t4 t5 t6 t7 t8 t9 t10 t11 t12 t13)
        | (go_at_call 19; refine (HFL.out _ HK5.out).mono ?_; rintro r w6 ⟨rfl, hw6⟩; have hw6' := hw6.symm; subst hw6'; obtain ⟨g, gcap, l1, l2, l3, l4, l5⟩ := HLc.out w5 HK5.out; obtain ⟨WA, hal, hkA, hEA, hXA⟩ := HBx.out w5 HK5.out HE5.out; have HKA : Hid (Rb _ _ _ _ WA) := hkA; have HEA : Hid (BlkE WA wr.heap.size _) := hEA; have HXA : Hid (BlkX WA w5.heap.size _) := hXA; obtain ⟨s0, s1, s2, s3, s4, s5, s6, s7, s8, s9, s10, s11, s12, s13⟩ := hEA.at; obtain ⟨d0, d1, d2, d3⟩ := hXA.cells; (try simp only at s0 s1 s2 s3 s4 s5 s6 s7 s8 s9 s10 s11 s12 s13 d0 d1 d2 d3 hal); clear hkA hEA hXA)
        | (go_at_call 21; refine (HOut.out _ HKA.out).mono ?_; rintro r w9 ⟨rfl, hK9⟩; have HK9 : Hid (Rb _ _ _ _ w9) := hK9; clear hK9))
       go_roundw
       case rel => exact ⟨k + 1, by omega, by go_num, by rw [HV.out], fun j hj => by
        rcases Nat.lt_or_ge j k with h | h
        ·exact HNo.out j h
        ·obtain rfl : j = k := by omega
         exact HC.out, by rw [HM.out, HB1.out]; exact HK9.out⟩
       case measure => simp [RowKit.intOf]; omega
    ·rcases (show e.1 = kOut ∨ e.1 = kLess from ho) with hw | hw
     ·as_aux_lemma =>
       have hst := step_out (m := (lyK l code k).1) hD0 hI' hx hc hi ho
       rw [hst] at hly her
       have x1 := other_word (k := e.1) (z := kIn) (by rw [hw]; exact a7)
       have x2 := other_word (k := e.1) (z := kMore) (by rw [hw]; exact a8)
       have x3 := same_wordR hw
       have x4 := other_word (k := e.1) (z := kLess) (by rw [hw]; exact a9)
       clear a1 a2 a3 a4 a5 a6 a7 a8 a9 a10 a11 a12 hw
       have HC : Hid (erK l code k = outE (lyK l code k).1 e.2.2.2.2.2) := her
       generalize outE (lyK l code k).1 e.2.2.2.2.2 = E at *
       have HE0 : Hid (E ≠ 0) := hE0
       have z0 : ((E : Int) == 0) = false := by simp; omega
       have z1 : (0 : Int) < (E : Int) := by omega
       generalize outL (lyK l code k).1 e.2.2.2.2.2 = m2 at *
       generalize outN (lyK l code k).1 e.2.2.2.2.2 = zn at *
       generalize hb1 : bkTo l (k + 1) = b1 at *
       have HB1 : Hid (bkTo l (k + 1) = b1) := hb1
       clear hb1
       generalize (lyK l code k).1 = m at *
       generalize hzz : (lyK l code k).2 = zz at *
       clear hzz
       obtain ⟨L2, hL2⟩ : ∃ L2, b1.2.1.length = L2 := ⟨_, rfl⟩
       rw [hL2] at HLc hkL h60
       obtain ⟨⟨xi, xc, xu, xk⟩, xh⟩ := x
       clear hly her hlo hsame hze hok hb1e hD0 he hst hI hI' hx HE00 hL2 hc hi ho hE0 HIn
       obtain ⟨ak, ⟨agc, agp⟩, ⟨ali, alc, alu, alk⟩, ⟨afz, afr, afb⟩, ⟨atz, atr, atb⟩, an⟩ := e
       unfold agE at HD
       unfold celE at hW3
       simp only at c0 c1 c2 c3 c4 c5 c6 c7 c8 c9 c10 c11 c12 c13 t0 t1 t2 t3 t4 t5 t6 t7 t8 t9 t10 t11 t12 t13 HD HFL hW3 HLc HBx HOut e3 x1 x2 x3 x4
       go_wp2_with (first
        | (go_at_call 18; refine HD.out.mono ?_; rintro r w5 ⟨rfl, hK5, hE5⟩; have HK5 : Hid (Rb _ _ _ _ _) := hK5; have HE5 : Hid (BlkE w5 wr.heap.size _) := hE5; obtain ⟨s0, s1, s2, s3, s4, s5, s6, s7, s8, s9, s10, s11, s12, s13⟩ := hE5.at; (try simp only at s0 s1 s2 s3 s4 s5 s6 s7 s8 s9 s10 s11 s12 s13); clear hK5 hE5 t0 t1 t2 t3 t4 t5 t6 t7 t8 t9 t10 t11 t12 t13)
        | (go_at_call 19; refine (HFL.out _ HK5.out).mono ?_; rintro r w6 ⟨rfl, hw6⟩; have hw6' := hw6.symm; subst hw6'; obtain ⟨g, gcap, l1, l2, l3, l4, l5⟩ := HLc.out w5 HK5.out; obtain ⟨WA, hal, hkA, hEA, hXA⟩ := HBx.out w5 HK5.out HE5.out; have HKA : Hid (Rb _ _ _ _ WA) := hkA; have HEA : Hid (BlkE WA wr.heap.size _) := hEA; have HXA : Hid (BlkX WA w5.heap.size _) := hXA; obtain ⟨s0, s1, s2, s3, s4, s5, s6, s7, s8, s9, s10, s11, s12, s13⟩ := hEA.at; obtain ⟨d0, d1, d2, d3⟩ := hXA.cells; (try simp only at s0 s1 s2 s3 s4 s5 s6 s7 s8 s9 s10 s11 s12 s13 d0 d1 d2 d3 hal); clear hkA hEA hXA)
        | (go_at_call 21; refine (HOut.out _ HKA.out).mono ?_; rintro r w9 ⟨rfl, hK9⟩; have HK9 : Hid (Rb _ _ _ _ w9) := hK9; clear hK9; obtain ⟨W7, W8, e7, e8, ⟨y0, y1, yf⟩, ⟨y2, yg⟩, y3, y4, yb, _⟩ := (HRet.out _ _ _ HK9.out).2 (E : Int) (k : Int)))
       refine bodyPost_ret (v := .tuple #[nilP, .int .i64 0, .agg #[.int .i64 (E : Int), .int .i64 k]]) (by simp [results, Tryz.results7, go_sem, y3, y4]) rfl ⟨Or.inr (Or.inr ⟨k, by omega, HNo.out, by rw [HC.out]; exact HE0.out, by rw [HC.out]⟩), yb⟩
     ·as_aux_lemma =>
       have hst := step_out (m := (lyK l code k).1) hD0 hI' hx hc hi ho
       rw [hst] at hly her
       have x1 := other_word (k := e.1) (z := kIn) (by rw [hw]; exact a10)
       have x2 := other_word (k := e.1) (z := kMore) (by rw [hw]; exact a11)
       have x3 := other_word (k := e.1) (z := kOut) (by rw [hw]; exact a12)
       have x4 := same_wordR hw
       clear a1 a2 a3 a4 a5 a6 a7 a8 a9 a10 a11 a12 hw
       have HC : Hid (erK l code k = outE (lyK l code k).1 e.2.2.2.2.2) := her
       generalize outE (lyK l code k).1 e.2.2.2.2.2 = E at *
       have HE0 : Hid (E ≠ 0) := hE0
       have z0 : ((E : Int) == 0) = false := by simp; omega
       have z1 : (0 : Int) < (E : Int) := by omega
       generalize outL (lyK l code k).1 e.2.2.2.2.2 = m2 at *
       generalize outN (lyK l code k).1 e.2.2.2.2.2 = zn at *
       generalize hb1 : bkTo l (k + 1) = b1 at *
       have HB1 : Hid (bkTo l (k + 1) = b1) := hb1
       clear hb1
       generalize (lyK l code k).1 = m at *
       generalize hzz : (lyK l code k).2 = zz at *
       clear hzz
       obtain ⟨L2, hL2⟩ : ∃ L2, b1.2.1.length = L2 := ⟨_, rfl⟩
       rw [hL2] at HLc hkL h60
       obtain ⟨⟨xi, xc, xu, xk⟩, xh⟩ := x
       clear hly her hlo hsame hze hok hb1e hD0 he hst hI hI' hx HE00 hL2 hc hi ho hE0 HIn
       obtain ⟨ak, ⟨agc, agp⟩, ⟨ali, alc, alu, alk⟩, ⟨afz, afr, afb⟩, ⟨atz, atr, atb⟩, an⟩ := e
       unfold agE at HD
       unfold celE at hW3
       simp only at c0 c1 c2 c3 c4 c5 c6 c7 c8 c9 c10 c11 c12 c13 t0 t1 t2 t3 t4 t5 t6 t7 t8 t9 t10 t11 t12 t13 HD HFL hW3 HLc HBx HOut e3 x1 x2 x3 x4
       go_wp2_with (first
        | (go_at_call 18; refine HD.out.mono ?_; rintro r w5 ⟨rfl, hK5, hE5⟩; have HK5 : Hid (Rb _ _ _ _ _) := hK5; have HE5 : Hid (BlkE w5 wr.heap.size _) := hE5; obtain ⟨s0, s1, s2, s3, s4, s5, s6, s7, s8, s9, s10, s11, s12, s13⟩ := hE5.at; (try simp only at s0 s1 s2 s3 s4 s5 s6 s7 s8 s9 s10 s11 s12 s13); clear hK5 hE5 t0 t1 t2 t3 t4 t5 t6 t7 t8 t9 t10 t11 t12 t13)
        | (go_at_call 19; refine (HFL.out _ HK5.out).mono ?_; rintro r w6 ⟨rfl, hw6⟩; have hw6' := hw6.symm; subst hw6'; obtain ⟨g, gcap, l1, l2, l3, l4, l5⟩ := HLc.out w5 HK5.out; obtain ⟨WA, hal, hkA, hEA, hXA⟩ := HBx.out w5 HK5.out HE5.out; have HKA : Hid (Rb _ _ _ _ WA) := hkA; have HEA : Hid (BlkE WA wr.heap.size _) := hEA; have HXA : Hid (BlkX WA w5.heap.size _) := hXA; obtain ⟨s0, s1, s2, s3, s4, s5, s6, s7, s8, s9, s10, s11, s12, s13⟩ := hEA.at; obtain ⟨d0, d1, d2, d3⟩ := hXA.cells; (try simp only at s0 s1 s2 s3 s4 s5 s6 s7 s8 s9 s10 s11 s12 s13 d0 d1 d2 d3 hal); clear hkA hEA hXA)
        | (go_at_call 21; refine (HOut.out _ HKA.out).mono ?_; rintro r w9 ⟨rfl, hK9⟩; have HK9 : Hid (Rb _ _ _ _ w9) := hK9; clear hK9; obtain ⟨W7, W8, e7, e8, ⟨y0, y1, yf⟩, ⟨y2, yg⟩, y3, y4, yb, _⟩ := (HRet.out _ _ _ HK9.out).2 (E : Int) (k : Int)))
       refine bodyPost_ret (v := .tuple #[nilP, .int .i64 0, .agg #[.int .i64 (E : Int), .int .i64 k]]) (by simp [results, Tryz.results7, go_sem, y3, y4]) rfl ⟨Or.inr (Or.inr ⟨k, by omega, HNo.out, by rw [HC.out]; exact HE0.out, by rw [HC.out]⟩), yb⟩
   as_aux_lemma =>
    have hst := step_oth (m := (lyK l code k).1) hD0 hI' hx hc hi ho
    rw [hst] at hly her
    have x1 := other_word (k := e.1) (z := kIn) (fun h => hi (Or.inl h))
    have x2 := other_word (k := e.1) (z := kMore) (fun h => hi (Or.inr h))
    have x3 := other_word (k := e.1) (z := kOut) (fun h => ho (Or.inl h))
    have x4 := other_word (k := e.1) (z := kLess) (fun h => ho (Or.inr h))
    clear a1 a2 a3 a4 a5 a6 a7 a8 a9 a10 a11 a12
    have HC : Hid (erK l code k = 0) := her
    have HV : Hid ((lyK l code (k + 1)).2 = (lyK l code k).2) := by show _ = _; rw [hly]; exact hsame
    have HM : Hid ((lyK l code (k + 1)).1 = (lyK l code k).1) := by show _ = _; rw [hly]
    generalize hb1 : bkTo l (k + 1) = b1 at *
    have HB1 : Hid (bkTo l (k + 1) = b1) := hb1
    clear hb1
    generalize (lyK l code k).1 = m at *
    generalize hzz : (lyK l code k).2 = zz at *
    clear hzz
    obtain ⟨L2, hL2⟩ : ∃ L2, b1.2.1.length = L2 := ⟨_, rfl⟩
    rw [hL2] at HLc hkL h60
    obtain ⟨⟨xi, xc, xu, xk⟩, xh⟩ := x
    clear hly her hlo hsame hze hok hb1e hD0 he hst hI hI' hx HE00 hL2 hc hi ho HIn HOut
    obtain ⟨ak, ⟨agc, agp⟩, ⟨ali, alc, alu, alk⟩, ⟨afz, afr, afb⟩, ⟨atz, atr, atb⟩, an⟩ := e
    unfold agE at HD
    unfold celE at hW3
    simp only at c0 c1 c2 c3 c4 c5 c6 c7 c8 c9 c10 c11 c12 c13 t0 t1 t2 t3 t4 t5 t6 t7 t8 t9 t10 t11 t12 t13 HD HFL hW3 HLc HBx e3 x1 x2 x3 x4
    go_wp2_with (first
     | (go_at_call 18; refine HD.out.mono ?_; rintro r w5 ⟨rfl, hK5, hE5⟩; have HK5 : Hid (Rb _ _ _ _ _) := hK5; have HE5 : Hid (BlkE w5 wr.heap.size _) := hE5; obtain ⟨s0, s1, s2, s3, s4, s5, s6, s7, s8, s9, s10, s11, s12, s13⟩ := hE5.at; (try simp only at s0 s1 s2 s3 s4 s5 s6 s7 s8 s9 s10 s11 s12 s13); clear hK5 hE5 t0 t1 t2 t3 t4 t5 t6 t7 t8 t9 t10 t11 t12 t13)
     | (go_at_call 19; refine (HFL.out _ HK5.out).mono ?_; rintro r w6 ⟨rfl, hw6⟩; have hw6' := hw6.symm; subst hw6'; obtain ⟨g, gcap, l1, l2, l3, l4, l5⟩ := HLc.out w5 HK5.out; obtain ⟨WA, hal, hkA, hEA, hXA⟩ := HBx.out w5 HK5.out HE5.out; have HKA : Hid (Rb _ _ _ _ WA) := hkA; have HEA : Hid (BlkE WA wr.heap.size _) := hEA; have HXA : Hid (BlkX WA w5.heap.size _) := hXA; obtain ⟨s0, s1, s2, s3, s4, s5, s6, s7, s8, s9, s10, s11, s12, s13⟩ := hEA.at; obtain ⟨d0, d1, d2, d3⟩ := hXA.cells; (try simp only at s0 s1 s2 s3 s4 s5 s6 s7 s8 s9 s10 s11 s12 s13 d0 d1 d2 d3 hal); clear hkA hEA hXA))
    go_roundw
    case rel => exact ⟨k + 1, by omega, by go_num, by rw [HV.out], fun j hj => by
     rcases Nat.lt_or_ge j k with h | h
     ·exact HNo.out j h
     ·obtain rfl : j = k := by omega
      exact HC.out, by rw [HM.out, HB1.out]; exact HKA.out⟩
    case measure => simp [RowKit.intOf]; omega
  ·have hkn : k = ln := by omega
   subst hkn
   have hrr := (HRet.out wr _ _ hK)
   have HFG := hK.goods_ (bkTo_ok l k) code
   rcases HGo.out with ⟨hig, i, hfi⟩ | ⟨hig, hfi⟩
   ·have HIg : Hid (isGoods (bkTo l k) code = true) := hig
    rw [hfi] at HFG
    have HFG : Hid (Calls Tryz.prog 22 _ wr _) := HFG
    clear hig hfi hrr hK
    go_wp2_with (first
     | (go_at_call 22; refine HFG.out.mono ?_; rintro r w6 ⟨rfl, hw6⟩; have hw6' := hw6.symm; subst hw6')
     | (go_at_call 24; refine (fineR _).mono ?_; rintro r w7 ⟨rfl, hb7⟩; obtain ⟨W7, W8, e7, e8, ⟨y0, y1, yf⟩, ⟨y2, yg⟩, y3, y4, yb, yy⟩ := (HRet.out w7 _ _ (HKk.out.on hb7)).2 0 (-1)))
    refine bodyPost_ret (v := .tuple #[ptrK (w.heap.size + 2), .int .i64 (lyK l code k).2, .agg #[.int .i64 0, .int .i64 (-1)]]) (by simp [results, Tryz.results7, go_sem, y3, y4]) rfl ⟨Or.inl ⟨HNo.out, HIg.out, rfl, yy⟩, yb⟩
   ·have HIg : Hid (isGoods (bkTo l k) code = false) := hig
    rw [hfi] at HFG
    have HFG : Hid (Calls Tryz.prog 22 _ wr _) := HFG
    clear hig hfi hrr hK
    go_wp2_with (first
     | (go_at_call 22; refine HFG.out.mono ?_; rintro r w6 ⟨rfl, hw6⟩; have hw6' := hw6.symm; subst hw6')
     | (go_at_call 23; refine (bareN _).mono ?_; rintro r w7 ⟨rfl, hb7⟩; obtain ⟨W7, W8, e7, e8, ⟨y0, y1, yf⟩, ⟨y2, yg⟩, y3, y4, yb, yy⟩ := (HRet.out w7 _ _ (HKk.out.on hb7)).2 6 (-1)))
    refine bodyPost_ret (v := .tuple #[nilP, .int .i64 0, .agg #[.int .i64 6, .int .i64 (-1)]]) (by simp [results, Tryz.results7, go_sem, y3, y4]) rfl ⟨Or.inr (Or.inl ⟨HNo.out, HIg.out, rfl⟩), yb⟩
end Go.Proofs.YtpnmbomjnpheeaaGreatDoor
