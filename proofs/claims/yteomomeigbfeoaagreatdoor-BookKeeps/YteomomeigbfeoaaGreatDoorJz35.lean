/-
 The law BookKeeps answers true of at most fifty entries that are not too long, in every memory in which the book's errors are laid; nothing old is turned.
-/
import Derived.Test.YteomomeigbfeoaaGreatDoorJz31
import Derived.Test.YteomomeigbfeoaaGreatDoorJz32
import Derived.Test.YteomomeigbfeoaaGreatDoorBLong
import Derived.BigQuiet
set_option maxRecDepth 100000
set_option maxHeartbeats 16000000
namespace Go.Proofs.YteomomeigbfeoaaGreatDoor
open Go.RowKit Go.Lib Go.Sort
theorem bookKeeps_in (pp : Option Addr) (l : List En) (cap : Nat) (w : World) (s : Nat → Addr) (hs : Bs w s) (hz : ∀ e ∈ l, SzE e) (hr : l = [] ∨ ∃ bq off, pp = some ⟨bq, off, none⟩ ∧ Ents w bq off l) (h50 : l.length ≤ 50) (hno : longs l = false) :
  Calls Tryz.prog 4 #[.slice pp l.length cap] w fun e w' => e = .returned (.bool true) ∧ Below w.heap.size w w' := by
 have HSt : Hid (Calls Tryz.prog 8 _ _ _) := started_any w s hs
 have HLg : Hid (∀ W, Below w.heap.size w W → Calls Tryz.prog 9 #[.slice pp l.length cap, .int .i64 50] W fun r w' => r = .returned (.int .i64 0) ∧ Below W.heap.size W w') := fun W hb => by
  rcases hr with rfl | ⟨bq, off, rfl, hE⟩
  ·refine (longs_none pp cap 50 W (by decide)).mono ?_
   rintro r w' ⟨rfl, rfl⟩
   exact ⟨rfl, Below.refl _ _⟩
  ·have := longs_some l bq off cap 50 W (hE.below hE.lt hb) hz (by omega) (by decide)
   rw [hno] at this
   exact this
 have HNw : Hid (∀ W, Below w.heap.size w W → Calls Tryz.prog 18 #[] W fun e w' => ∃ x : Bl, e = .returned (.pointer (some ⟨x.p, 0, none⟩)) ∧ IsBk w' w.heap.size x (bkTo l 0) ∧ Below w.heap.size w w') := fun W hb =>
  (bnew_any W).mono fun e w' ⟨x, h1, h2, h3⟩ => ⟨x, h1, h2.mono hb.size, hb.trans (h3.mono hb.size)⟩
 have HZ : Hid (∀ e ∈ l, SzE e) := hz
 have HS : Hid (∀ W, Below w.heap.size w W → Bs W s) := fun W hb => hs.below hb
 have HR : Hid (∀ W k e, l[k]? = some e → Below w.heap.size w W → ∃ bq off, pp = some ⟨bq, off, none⟩ ∧ EntO W bq (off + k * 14) e) := fun W k e he hb => by
  rcases hr with rfl | ⟨bq, off, h1, h2⟩
  ·simp at he
  ·exact ⟨bq, off, h1, (h2.below h2.lt hb).at_ k e he⟩
 have HBl : Hid ((bkTo l l.length).2.1.length ≤ 59) := Nat.le_trans (bkTo_lots l l.length) (Nat.le_trans h50 (by decide))
 obtain ⟨ln, hln⟩ : ∃ ln, l.length = ln := ⟨_, rfl⟩
 have HL : Hid (ln = l.length) := hln.symm
 rw [hln] at h50 HLg ⊢
 clear hs hz hr hno hln
 go_enter Tryz.func4, Tryz.ntmps4
 go_wp2_with (first
  | (go_at_call 8; refine HSt.out.mono ?_; rintro e w1 ⟨rfl, hb1⟩; have HB1 : Hid (Below _ _ _) := hb1; clear hb1)
  | (go_at_call 9; refine (HLg.out _ HB1.out).mono ?_; rintro e w2 ⟨rfl, hb2⟩; have HB2 : Hid (Below w.heap.size w w2) := HB1.out.trans (hb2.mono HB1.out.size); clear hb2)
  | (go_at_call 18; refine (HNw.out _ HB2.out).mono ?_; rintro e w3 ⟨x, rfl, hI3, hb3⟩; have HI3 : Hid (IsBk _ _ _ _) := hI3; have HB3 : Hid (Below w.heap.size w w3) := hb3; clear hI3 hb3))
 clear HSt HLg HNw
 go_loopw [5] (fun i wr => ∃ k : Nat, k ≤ ln ∧ i = .int .i64 k ∧ IsBk wr w.heap.size x (bkTo l k) ∧ Below w.heap.size w wr) (fun i _ => ln - (RowKit.intOf i).toNat)
 case atStart => exact ⟨0, Nat.zero_le _, rfl, HI3.out, HB3.out⟩
 case round =>
  obtain ⟨k, hk, rfl, hI, hb⟩ := hrel
  have HI : Hid (IsBk _ _ _ _) := hI
  have HB : Hid (Below _ _ _) := hb
  by_cases hlt : k < ln
  ·have hkm : k < l.length := by rw [← HL.out]; exact hlt
   obtain ⟨e, he⟩ : ∃ e, l[k]? = some e := ⟨_, List.getElem?_eq_getElem hkm⟩
   have hze := HZ.out e (List.mem_of_getElem? he)
   have HC : Hid (Calls Tryz.prog 12 _ _ _) := bcopy_any wr w.heap.size x (bkTo l k) hI
   obtain ⟨bq, off, rfl, hE0⟩ := HR.out wr k e he hb
   have HE : Hid (∀ W, Below w.heap.size w W → EntO W bq (off + k * 14) e) := fun W hb => by
    obtain ⟨bq', off', e1, e2⟩ := HR.out W k e he hb
    cases e1
    exact e2
   have HD : Hid (∀ W y, Below wr.heap.size wr W → IsBk W wr.heap.size y (bkTo l k) → Calls Tryz.prog 13 #[.pointer (some ⟨x.p, 0, none⟩), agE e] W fun r w' => r = .returned (errP s (doB (bkTo l k) e).2) ∧ IsBk w' w.heap.size x (bkTo l (k + 1)) ∧ IsBk w' wr.heap.size y (bkTo l k) ∧ Below w.heap.size w w') := fun W y hW hy => by
    have hbW : Below w.heap.size w W := hb.trans (hW.mono hb.size)
    have hIW := hI.below hW
    refine (bdo_any W s w.heap.size x (bkTo l k) e hIW hze (HS.out _ hbW)).mono ?_
    rintro r w' ⟨r1, r2, r3⟩
    exact ⟨r1, by rw [bkTo_succ he]; exact r2, hy.off r3 fun j hj => (hI.low j hj).2, hbW.trans (r3.below hbW.size fun j hj => (hIW.low j hj).1)⟩
   have HX : Hid (∀ W, Below w.heap.size w W → IsBk W w.heap.size x (bkTo l (k + 1)) → Below w.heap.size w W) := fun W h _ => h
   by_cases hC : (doB (bkTo l k) e).2 = 0
   ·rw [hC] at HD
    unfold errP at HD
    simp only [if_pos] at HD
    clear hze hkm he hC hI hb hE0
    obtain ⟨ak, ⟨agc, agp⟩, ⟨ali, alc, alu, alk⟩, ⟨afz, afr, afb⟩, ⟨atz, atr, atb⟩, an⟩ := e
    unfold agE at *
    go_wp2_with (first
     | (go_at_call 12; refine HC.out.mono ?_; rintro r w4 ⟨y, rfl, hy, hb4⟩; have HY : Hid (IsBk _ _ _ _) := hy; have Hb4 : Hid (Below wr.heap.size wr w4) := hb4; obtain ⟨c0, c1, c2, c3, c4, c5, c6, c7, c8, c9, c10, c11, c12, c13⟩ := HE.out w4 (HB.out.trans (hb4.mono HB.out.size)); (try simp only at c0 c1 c2 c3 c4 c5 c6 c7 c8 c9 c10 c11 c12 c13); clear hy hb4)
     | (go_at_call 13; refine (HD.out _ _ Hb4.out HY.out).mono ?_; rintro r w5 ⟨rfl, hI5, hY5, hB5⟩; have HI5 : Hid (IsBk _ _ _ _) := hI5; have HB5 : Hid (Below _ _ _) := hB5; clear hI5 hY5 hB5))
    go_roundw
    case rel => exact ⟨k + 1, by omega, by go_num, HI5.out, HB5.out⟩
    case measure => simp [RowKit.intOf]; omega
   ·have hsame : bkTo l (k + 1) = bkTo l k := by rw [bkTo_succ he]; exact doB_same (bkTo_ok l k) hC
    have HSm : Hid (∀ W y, IsBk W wr.heap.size y (bkTo l k) → IsBk W w.heap.size x (bkTo l (k + 1)) → Calls Tryz.prog 14 #[.pointer (some ⟨y.p, 0, none⟩), .pointer (some ⟨x.p, 0, none⟩)] W fun e w' => e = .returned (.bool true) ∧ Below W.heap.size W w') := fun W y h1 h2 =>
     same_any W wr.heap.size w.heap.size y x (bkTo l k) (bkTo l (k + 1)) h1 h2 true (by simp [hsame])
    simp only [errP_pos s hC] at HD
    generalize s ((doB (bkTo l k) e).2 - 1) = ad at *
    clear hze hkm he hC hI hb hE0 hsame
    obtain ⟨ak, ⟨agc, agp⟩, ⟨ali, alc, alu, alk⟩, ⟨afz, afr, afb⟩, ⟨atz, atr, atb⟩, an⟩ := e
    unfold agE at *
    go_wp2_with (first
     | (go_at_call 12; refine HC.out.mono ?_; rintro r w4 ⟨y, rfl, hy, hb4⟩; have HY : Hid (IsBk _ _ _ _) := hy; have Hb4 : Hid (Below wr.heap.size wr w4) := hb4; obtain ⟨c0, c1, c2, c3, c4, c5, c6, c7, c8, c9, c10, c11, c12, c13⟩ := HE.out w4 (HB.out.trans (hb4.mono HB.out.size)); (try simp only at c0 c1 c2 c3 c4 c5 c6 c7 c8 c9 c10 c11 c12 c13); clear hy hb4)
     | (go_at_call 13; refine (HD.out _ _ Hb4.out HY.out).mono ?_; rintro r w5 ⟨rfl, hI5, hY5, hB5⟩; have HI5 : Hid (IsBk _ _ _ _) := hI5; have HY5 : Hid (IsBk _ _ _ _) := hY5; have HB5 : Hid (Below _ _ _) := hB5; clear hI5 hY5 hB5)
     | (go_at_call 14; refine (HSm.out _ _ HY5.out HI5.out).mono ?_; rintro r w6 ⟨rfl, hb6⟩; have HI6 : Hid (IsBk w6 _ _ _) := HI5.out.below hb6; have HB6 : Hid (Below w.heap.size w w6) := HB5.out.trans (hb6.mono HB5.out.size); clear hb6))
    go_roundw
    case rel => exact ⟨k + 1, by omega, by go_num, HI6.out, HB6.out⟩
    case measure => simp [RowKit.intOf]; omega
  ·have hkn : k = l.length := by have := HL.out; omega
   subst hkn
   have hok := bkTo_ok l l.length
   have hpac := bkTo_pac l l.length
   have h59 := HBl.out
   clear HR HZ HS HI3 HB3 HBl
   generalize bkTo l l.length = b at *
   have HOK : Hid (BkOk b) := hok
   have HPA : Hid (Pac b) := hpac
   have H59 : Hid (b.2.1.length ≤ 59) := h59
   clear hok hpac h59 hI hb
   go_wp2_with (first
    | (go_at_call 15; refine (bgoods_any _ _ _ _ HI.out).mono ?_; rintro e w5 ⟨vg, rfl, hg5, hb5⟩; obtain ⟨pg, cg, rfl, hg5'⟩ := hg5.shape2; have HG5 : Hid (∀ i y, b.1[i]? = some y → ∃ g, pg = some ⟨g, 0, none⟩ ∧ g < w5.heap.size ∧ w5.cell? ⟨g, i * 2, none⟩ = some (.string y.1.1)) := hg5'; have HI5 : Hid (IsBk w5 w.heap.size x b) := HI.out.below hb5; have HB5 : Hid (Below w.heap.size w w5) := HB.out.trans (hb5.mono HB.out.size); clear hg5 hg5' hb5)
    | (go_at_call 19; refine (bstock_any _ _ _ _ HI5.out).mono ?_; rintro e w6 ⟨p', b', rfl, hns⟩; have HN6 : Hid (IsStock w6 p' b' b.2.2) := hns.st; have HI6 : Hid (IsBk w6 w.heap.size x b) := HI5.out.below hns.below; have HB6 : Hid (Below w.heap.size w w6) := HB5.out.trans (hns.below.mono HB5.out.size); have HG6 : Hid (∀ i y W, b.1[i]? = some y → Below w6.heap.size w6 W → ∃ g, pg = some ⟨g, 0, none⟩ ∧ W.cell? ⟨g, i * 2, none⟩ = some (.string y.1.1)) := (fun i y W hy hW => by obtain ⟨g, h1, h2, h3⟩ := HG5.out i y hy; have h4 := hns.below.trans (hW.mono hns.below.size); exact ⟨g, h1, (h4.cell (p := ⟨g, i * 2, none⟩) h2).trans h3⟩); clear hns))
   clear HI HB HI5 HB5 HG5
   have hgl30 : b.1.length ≤ 30 := HOK.out.wf.gl
   obtain ⟨nG, hnG⟩ : ∃ nG, nG = b.1.length := ⟨_, rfl⟩
   rw [← hnG] at hgl30 ⊢
   have HnG : Hid (nG = b.1.length) := hnG
   clear hnG
   go_loopw [9] (fun i wr => ∃ k : Nat, k ≤ nG ∧ i = .int .i64 k ∧ Below w6.heap.size w6 wr) (fun i _ => nG - (RowKit.intOf i).toNat)
   case atStart => exact ⟨0, Nat.zero_le _, rfl, Below.refl _ _⟩
   case round =>
    obtain ⟨k, hk, rfl, hwr⟩ := hrel
    obtain ⟨wo, hwo⟩ : ∃ wo, wo = wr := ⟨wr, rfl⟩
    subst hwo
    have Hwo : Hid (Below w6.heap.size w6 wo) := hwr
    clear hwr
    by_cases hlt : k < nG
    ·obtain ⟨y, hy⟩ : ∃ y, b.1[k]? = some y := ⟨_, List.getElem?_eq_getElem (by rw [← HnG.out]; exact hlt)⟩
     have hym := List.mem_of_getElem? hy
     obtain ⟨g, rfl, hc0⟩ := HG6.out k y wo hy Hwo.out
     have HC : Hid (∀ W, Below w6.heap.size w6 W → W.cell? ⟨g, k * 2, none⟩ = some (.string y.1.1)) := fun W hb => by
      obtain ⟨g', h1, h2⟩ := HG6.out k y W hy hb
      cases h1
      exact h2
     obtain ⟨si, so, sm, sl, hsu, hhas, b0, b1, b2, b3, b4, b5, b6, b7⟩ := keeps_sums HOK.out HPA.out hym
     have hsz := HI6.out.sizeG hym
     have hSu := bsums_any y.1.1 wo w.heap.size x b (HI6.out.below Hwo.out) hsz
     rw [hsu] at hSu
     have HSu : Hid (Calls Tryz.prog 16 #[.pointer (some ⟨x.p, 0, none⟩), .string y.1.1] wo fun e w' => e = .returned (.agg #[.int .i64 si, .int .i64 so, .int .i64 sm, .int .i64 sl]) ∧ Below wo.heap.size wo w') := hSu
     have HH : Hid (∀ W, Below w6.heap.size w6 W → Calls Tryz.prog 17 #[.pointer (some ⟨x.p, 0, none⟩), .string y.1.1] W fun e w' => e = .returned (.int .i64 (si - so + sm - sl)) ∧ Below W.heap.size W w') := fun W hb => by
      have := bhas_any y.1.1 W w.heap.size x b (HI6.out.below hb)
      rw [hhas] at this
      exact this
     have HLt : Hid (∀ W, Below w6.heap.size w6 W → Calls Tryz.prog 20 #[.pointer (some ⟨x.p, 0, none⟩), .string y.1.1] W fun e w' => ∃ v d, e = .returned v ∧ LotsAt w' W.heap.size v d ∧ d.toList.Perm (lotsOf b.2.1 y.1.1) ∧ SortedIn soonL 0 d.size d ∧ Below W.heap.size W w') := fun W hb => blots_any y.1.1 W w.heap.size x b (HI6.out.below hb) H59.out
     have hw1 : IntKind.i64.wrap (si - so) = si - so := by rw [IntKind.wrap_i64]; omega
     have hw2 : IntKind.i64.wrap (si - so + sm) = si - so + sm := by rw [IntKind.wrap_i64]; omega
     have hw3 : IntKind.i64.wrap (si - so + sm - sl) = si - so + sm - sl := by rw [IntKind.wrap_i64]; omega
     have z1 : decide (si < 0) = false := decide_eq_false (by omega)
     have z2 : decide (so < 0) = false := decide_eq_false (by omega)
     have z3 : ¬ si < 0 := by omega
     have z4 : ¬ so < 0 := by omega
     clear hSu hsu hhas hsz hym hy b0 b1 b2 b3 b4 b5 b6 b7
     generalize y.1.1 = yc at *
     go_wp2_with (go_at_call 16; refine HSu.out.mono ?_; rintro e w7 ⟨rfl, hb7⟩; have n7 := heap_alloc_new w7 (.cells #[.int .i64 si, .int .i64 so, .int .i64 sm, .int .i64 sl] 46); have hb7' : Below w6.heap.size w6 (w7.alloc (.cells #[.int .i64 si, .int .i64 so, .int .i64 sm, .int .i64 sl] 46)) := (Hwo.out.trans (hb7.mono Hwo.out.size)).alloc (Nat.le_trans Hwo.out.size hb7.size) _; obtain ⟨W7, hW7⟩ : ∃ W7, w7.alloc (.cells #[.int .i64 si, .int .i64 so, .int .i64 sm, .int .i64 sl] 46) = W7 := ⟨_, rfl⟩; rw [hW7] at n7 hb7'; have HB7 : Hid (Below w6.heap.size w6 W7) := hb7'; have d0 : W7.cell? ⟨w7.heap.size, 0, none⟩ = some (.int .i64 si) := (by rw [cell_of_heap n7]; rfl); have d1 : W7.cell? ⟨w7.heap.size, 1, none⟩ = some (.int .i64 so) := (by rw [cell_of_heap n7]; rfl); have d2 : W7.cell? ⟨w7.heap.size, 2, none⟩ = some (.int .i64 sm) := (by rw [cell_of_heap n7]; rfl); have d3 : W7.cell? ⟨w7.heap.size, 3, none⟩ = some (.int .i64 sl) := (by rw [cell_of_heap n7]; rfl); have hcg := HC.out W7 hb7'; clear n7 hb7 hb7')
     have x0 := cell_regrown d0
     have x1 := cell_regrown d1
     have x2 := cell_regrown d2
     have x3 := cell_regrown d3
     have x4 := cell_regrown hcg
     have hbR : ∀ d os, Below w6.heap.size w6 (grow (redrawn W7 d) os) := fun d os => HB7.out.trans ((below_regrown W7 d os).mono HB7.out.size)
     have cH := fun d os => Calls.regrown_of (w := W7) (d := d) (os := os) (HH.out _ (hbR d os))
     refine wp_region_quiet_below (by kernel_rfl) (by kernel_rfl) ?_
     repeat (first | go_big_quiet_skip | quiet_step (first | (go_at_call 17; exact cH _ _)))
     refine wpQuiet_nil ?_
     intro _ hw'
     obtain ⟨⟨dq, osq⟩, hw''⟩ := hw'
     subst hw''
     have HB8 : Hid (Below w6.heap.size w6 (grow (redrawn W7 dq) osq)) := hbR dq osq
     clear x0 x1 x2 x3 x4 cH hbR d0 d1 d2 d3 hcg
     generalize grow (redrawn W7 dq) osq = W8 at *
     have hc8 := HC.out _ HB8.out
     go_wp2_with (go_at_call 20; refine (HLt.out _ HB8.out).mono ?_; rintro e w9 ⟨vl, d, rfl, hld, hpm, hsd, hb9⟩; obtain ⟨pl, cl2, rfl, hl9⟩ := hld.shape4; have HL9 : Hid (∀ j, j < d.size → ∃ g, pl = some ⟨g, 0, none⟩ ∧ LotC w9 g (j * 4) d[j]!) := hl9; have HP9 : Hid (d.toList.Perm (lotsOf b.2.1 yc)) := hpm; have HS9 : Hid (SortedIn soonL 0 d.size d) := hsd; have hd59 : d.size ≤ 59 := (by have h1 := hpm.length_eq; have h2 := lotsOf_le b.2.1 yc; have h3 := H59.out; simp at h1; omega); have HB9 : Hid (Below w6.heap.size w6 w9) := HB8.out.trans (hb9.mono HB8.out.size); clear hld hpm hsd hb9 hl9)
     clear hc8 HC HSu HH HLt HB7 HB8
     obtain ⟨nD, hnD⟩ : ∃ nD, nD = d.size := ⟨_, rfl⟩
     have HnD : Hid (nD = d.size) := hnD
     rw [← hnD] at hd59 ⊢
     clear hnD
     go_loopw [12] (fun i wr => ∃ j : Nat, j ≤ nD ∧ i = .int .i64 j ∧ Below w9.heap.size w9 wr) (fun i _ => nD - (RowKit.intOf i).toNat)
     case atStart => exact ⟨0, Nat.zero_le _, rfl, Below.refl _ _⟩
     case round =>
      obtain ⟨j, hj, rfl, hwj⟩ := hrel
      have Hwj : Hid (Below w9.heap.size w9 wr) := hwj
      have HBj : Hid (Below w6.heap.size w6 wr) := HB9.out.trans (hwj.mono HB9.out.size)
      clear hwj
      by_cases hjl : j < nD
      ·have hjd : j < d.size := by rw [← HnD.out]; exact hjl
       obtain ⟨g2, rfl, hLC⟩ := HL9.out j hjd
       obtain ⟨l0, l1, l2, l3⟩ := hLC.below Hwj.out
       obtain ⟨⟨lh, hlm, hle⟩, hh1, hh2⟩ := keeps_lot HOK.out HP9.out hjd
       have hsz : d[j]!.1.size ≤ maxLen := by rw [← hle]; exact HI6.out.sizeL hlm
       have HHd : Hid (Calls Tryz.prog 21 #[.pointer (some ⟨x.p, 0, none⟩), .string d[j]!.1] wr fun e w' => e = .returned (.int .i64 (heldB b d[j]!.1)) ∧ w' = wr) := bheld_any d[j]!.1 wr w.heap.size x b (HI6.out.below HBj.out) hsz
       have HO : Hid (∀ W, Below w6.heap.size w6 W → Calls Tryz.prog 22 #[.pointer (some ⟨p', 0, none⟩), .string d[j]!.1] W fun e w' => e = .returned (.int .i64 (ofL b.2.2 d[j]!.1)) ∧ Below W.heap.size W w') := fun W hb => of_any d[j]!.1 W p' b' b.2.2 (HN6.out.all hb)
       have hbR : ∀ dd os, Below w6.heap.size w6 (grow (redrawn wr dd) os) := fun dd os => HBj.out.trans ((below_regrown wr dd os).mono HBj.out.size)
       have cO := fun dd os => Calls.regrown_of (w := wr) (d := dd) (os := os) (HO.out _ (hbR dd os))
       have z1 : decide (heldB b d[j]!.1 < 0) = false := decide_eq_false (by omega)
       have z2 : decide (heldB b d[j]!.1 > ofL b.2.2 d[j]!.1) = false := decide_eq_false (by omega)
       have z3 : ¬ heldB b d[j]!.1 < 0 := by omega
       have z4 : ¬ ofL b.2.2 d[j]!.1 < heldB b d[j]!.1 := by omega
       have y0 := cell_regrown l0
       have y1 := cell_regrown l1
       have y2 := cell_regrown l2
       have y3 := cell_regrown l3
       by_cases hj0 : j = 0
       ·subst hj0
        clear hlm hle hh1 hh2 hsz HO hLC
        generalize d[0]! = dj at *
        obtain ⟨da, dc, du, dk⟩ := dj
        simp only at *
        generalize heldB b da = hv at *
        generalize ofL b.2.2 da = ov at *
        go_wp2_with (go_at_call 21; refine HHd.out.mono ?_; rintro e w10 ⟨rfl, hw⟩; have hw' := hw.symm; subst hw')
        refine wp_region_quiet_below (by kernel_rfl) (by kernel_rfl) ?_
        repeat (first | go_big_quiet_skip | quiet_step (first | (go_at_call 22; exact cO _ _)))
        refine wpQuiet_nil ?_
        intro _ hw'
        obtain ⟨⟨dq, osq⟩, hw''⟩ := hw'
        subst hw''
        have HBE : Hid (Below w9.heap.size w9 (grow (redrawn wr dq) osq)) := Hwj.out.trans ((below_regrown wr dq osq).mono Hwj.out.size)
        clear y0 y1 y2 y3 cO hbR l0 l1 l2 l3
        generalize grow (redrawn wr dq) osq = WE at *
        go_wp2
        go_roundw
        case rel => exact ⟨0 + 1, by omega, by go_num, HBE.out⟩
        case measure => simp [RowKit.intOf]; omega
       ·obtain ⟨m, hm⟩ : ∃ m, j = m + 1 := ⟨j - 1, by omega⟩
        have hmd : m < d.size := by omega
        obtain ⟨g3, hg3, hLC3⟩ := HL9.out m hmd
        cases hg3
        obtain ⟨m0, m1, m2, m3⟩ := hLC3.below Hwj.out
        have hsoon : soonL d[m]! d[j]! = true := by rw [hm]; exact keeps_soon HOK.out HP9.out HS9.out (by omega)
        have hk1 : (j : Int) - 1 = (m : Int) := by omega
        have hkp : decide ((j : Int) > 0) = true := decide_eq_true (by omega)
        have hkz : (0 : Int) < (j : Int) := by omega
        have hkn : decide (0 < j) = true := decide_eq_true (by omega)
        have hkm : 0 < j := by omega
        have hwm : IntKind.i64.wrap (m : Int) = (m : Int) := by rw [IntKind.wrap_i64]; omega
        have hmn : m < nD := by omega
        have f0 := cell_regrown m0
        have f1 := cell_regrown m1
        have f2 := cell_regrown m2
        have f3 := cell_regrown m3
        have hSo := fun W => sooner_any d[m]! d[j]! W
        rw [hsoon] at hSo
        have cS := fun dd os => Calls.regrown_of (w := wr) (d := dd) (os := os) (hSo (grow (redrawn wr dd) os))
        clear hlm hle hh1 hh2 hsz HO hLC hLC3 hm hsoon hSo
        unfold agL at cS
        generalize d[j]! = dj at *
        generalize d[m]! = dm at *
        obtain ⟨da, dc, du, dk⟩ := dj
        obtain ⟨ma, mc, mu, mk⟩ := dm
        simp only at *
        generalize heldB b da = hv at *
        generalize ofL b.2.2 da = ov at *
        go_wp2_with (go_at_call 21; refine HHd.out.mono ?_; rintro e w10 ⟨rfl, hw⟩; have hw' := hw.symm; subst hw')
        refine wp_region_quiet_below (by kernel_rfl) (by kernel_rfl) ?_
        repeat (first | go_big_quiet_skip | quiet_step (first | (go_at_call 22; exact cO _ _) | (go_at_call 23; exact cS _ _)))
        refine wpQuiet_nil ?_
        intro _ hw'
        obtain ⟨⟨dq, osq⟩, hw''⟩ := hw'
        subst hw''
        have HBE : Hid (Below w9.heap.size w9 (grow (redrawn wr dq) osq)) := Hwj.out.trans ((below_regrown wr dq osq).mono Hwj.out.size)
        clear y0 y1 y2 y3 f0 f1 f2 f3 cO cS hbR l0 l1 l2 l3 m0 m1 m2 m3
        generalize grow (redrawn wr dq) osq = WE at *
        go_wp2
        go_roundw
        case rel => exact ⟨j + 1, by omega, by go_num, HBE.out⟩
        case measure => simp [RowKit.intOf]; omega
      ·have hjn : j = nD := by omega
       go_wp2
       exact ⟨⟨k + 1, by omega, by go_num, HBj.out⟩, by simp [RowKit.intOf]; omega⟩
    ·go_wp2
     go_ret
     exact ⟨rfl, HB6.out.trans (Hwo.out.mono HB6.out.size)⟩
theorem bookKeeps_long (v : Value) (w : World) (s : Nat → Addr) (hs : Bs w s) (hL : ∀ W, Below w.heap.size w W → Calls Tryz.prog 9 #[v, .int .i64 50] W fun r w' => r = .returned (.int .i64 1) ∧ Below W.heap.size W w') :
  Calls Tryz.prog 4 #[v] w fun e w' => e = .returned (.bool true) ∧ Below w.heap.size w w' := by
 have HSt : Hid (Calls Tryz.prog 8 _ _ _) := started_any w s hs
 have HL : Hid (∀ W, Below w.heap.size w W → Calls Tryz.prog 9 #[v, .int .i64 50] W _) := hL
 clear hs hL
 go_enter Tryz.func4, Tryz.ntmps4
 go_wp2_with (first
  | (go_at_call 8; refine HSt.out.mono ?_; rintro e w1 ⟨rfl, hb1⟩; have HB1 : Hid (Below _ _ _) := hb1; clear hb1)
  | (go_at_call 9; refine (HL.out _ HB1.out).mono ?_; rintro e w2 ⟨rfl, hb2⟩))
 go_ret
 exact ⟨rfl, HB1.out.trans (hb2.mono HB1.out.size)⟩
theorem bookKeeps_any (v : Value) (w : World) (s : Nat → Addr) (hs : Bs w s) (ho : (∃ ad c, v = .slice ad 0 c) ∨ ∃ b off c l, 1 ≤ l.length ∧ l.length ≤ maxLen ∧ v = .slice (some ⟨b, off, none⟩) l.length c ∧ Ents w b off l ∧ ∀ e ∈ l, SzE e) :
  Calls Tryz.prog 4 #[v] w fun e w' => e = .returned (.bool true) ∧ Below w.heap.size w w' := by
 rcases ho with ⟨ad, c, rfl⟩ | ⟨b, off, c, l, h1, hm, rfl, hE, hz⟩
 ·exact bookKeeps_in ad [] c w s hs (by simp) (Or.inl rfl) (by decide) rfl
 ·by_cases h50 : l.length ≤ 50
  ·cases hl : longs l with
   | false => exact bookKeeps_in _ l c w s hs hz (Or.inr ⟨b, off, rfl, hE⟩) h50 hl
   | true =>
    refine bookKeeps_long _ w s hs fun W hb => ?_
    have := longs_some l b off c 50 W (hE.below hE.lt hb) hz (by omega) (by decide)
    rw [hl] at this
    exact this
  ·refine bookKeeps_long _ w s hs fun W hb => ?_
   refine (longs_many (some ⟨b, off, none⟩) l.length c 50 W (by omega)).mono ?_
   rintro r w' ⟨rfl, rfl⟩
   exact ⟨rfl, Below.refl _ _⟩
end Go.Proofs.YteomomeigbfeoaaGreatDoor
