/-
 The law BookOrder answers true of at most forty entries and one more, none too long, in every memory in which the errors are laid; nothing old is turned.
-/
import Derived.Test.YteomomeigbfeoaaGreatDoorJz26
import Derived.Test.YteomomeigbfeoaaGreatDoorJz38
import Derived.Test.YteomomeigbfeoaaGreatDoorJz30
import Derived.BigQuiet
import Derived.Deep.CutRange
import Derived.Deep.CutBlock
set_option maxRecDepth 100000
set_option maxHeartbeats 16000000
namespace Go.Proofs.YteomomeigbfeoaaGreatDoor
open Go.RowKit Go.Lib Go.Sort
structure Ow (W0 w4 w5 : World) (x y : Bl) (b : Bk) : Prop where
 X4 : IsBk w4 W0.heap.size x b
 Y5 : IsBk w5 w4.heap.size y b
 B4 : Below W0.heap.size W0 w4
 B45 : Below w4.heap.size w4 w5
theorem Ow.doY {W0 w4 w5 : World} {x y : Bl} {b : Bk} (h : Ow W0 w4 w5 x y b) {s : Nat → Addr} {e : En} (hz : SzE e) (hs : Bs w5 s) :
  Calls Tryz.prog 13 #[.pointer (some ⟨y.p, 0, none⟩), agE e] w5 fun r w' => r = .returned (errP s (doB b e).2) ∧ IsBk w' W0.heap.size x b ∧ IsBk w' w4.heap.size y (doB b e).1 ∧ Below w4.heap.size w4 w' :=
 (bdo_any w5 s w4.heap.size y b e h.Y5 hz hs).mono fun r w' ⟨r1, r2, r3⟩ => by
  have h1 : Below w4.heap.size w4 w' := h.B45.trans (r3.below h.B45.size fun k hk => (h.Y5.low k hk).1)
  exact ⟨r1, h.X4.below h1, r2, h1⟩
theorem bookOrder_in (pp : Option Addr) (l : List En) (cap : Nat) (e : En) (w : World) (s : Nat → Addr) (hs : Sent w s) (hh : Handle w) (hz : ∀ e ∈ l, SzE e) (hze : SzE e) (hr : l = [] ∨ ∃ bq off, pp = some ⟨bq, off, none⟩ ∧ Ents w bq off l) (h40 : l.length ≤ 40) (hno : longs l = false) (hne : longE e = false) :
  Calls Tryz.prog 3 #[.slice pp l.length cap, agE e] w fun r w' => r = .returned (.bool true) ∧ Below w.heap.size w w' := by
 have hE0 := BlkE.new w e
 have hb0 : Below w.heap.size w (w.alloc (celE e)) := (Below.refl _ w).alloc (Nat.le_refl _) _
 obtain ⟨W0, hW0⟩ : ∃ W0, w.alloc (celE e) = W0 := ⟨_, rfl⟩
 rw [hW0] at hE0 hb0
 have HB0 : Hid (Below w.heap.size w W0) := hb0
 have HE : Hid (∀ W, Below W0.heap.size W0 W → EntAt W w.heap.size e) := fun W hb => (hE0.below hb).at
 have HSt : Hid (Calls Tryz.prog 8 _ _ _) := started_any W0 s (hs.below hb0).bs
 have HLg : Hid (∀ W, Below W0.heap.size W0 W → Calls Tryz.prog 9 #[.slice pp l.length cap, .int .i64 40] W fun r w' => r = .returned (.int .i64 0) ∧ Below W.heap.size W w') := fun W hb => by
  rcases hr with rfl | ⟨bq, off, rfl, hE⟩
  ·refine (longs_none pp cap 40 W (by decide)).mono ?_
   rintro r w' ⟨rfl, rfl⟩
   exact ⟨rfl, Below.refl _ _⟩
  ·have := longs_some l bq off cap 40 W (hE.below hE.lt (hb0.trans (hb.mono hb0.size))) hz (by omega) (by decide)
   rw [hno] at this
   exact this
 have HLe : Hid (∀ W, Calls Tryz.prog 10 #[agE e] W fun r w' => r = .returned (.int .i64 0) ∧ Below W.heap.size W w') := fun W => by
  have := long_any e W hze
  rw [hne] at this
  exact this
 have HOf : Hid (∀ W, Below W0.heap.size W0 W → Calls Tryz.prog 11 #[.slice pp l.length cap] W fun e w' => ∃ x Bq q, e = .returned (.tuple #[.pointer (some ⟨x.p, 0, none⟩), .pointer (some ⟨q, 0, none⟩), .bool true]) ∧ IsBk w' W0.heap.size x (bkTo l l.length) ∧ Below W0.heap.size W0 w') := fun W hb => by
  have hbw := hb0.trans (hb.mono hb0.size)
  refine (bookOf_any pp l cap W s (hs.below hbw) (hh.below hbw) hz (hr.imp id fun ⟨bq, off, h1, h2⟩ => ⟨bq, off, h1, h2.below h2.lt hbw⟩) (by omega)).mono ?_
  rintro r w' ⟨x, Bq, q, h1, h2⟩
  exact ⟨x, Bq, q, h1, h2.prog.mono hb.size, hb.trans (h2.below.mono hb.size)⟩
 have HS : Hid (∀ W, Below W0.heap.size W0 W → Bs W s) := fun W hb => (hs.below (hb0.trans (hb.mono hb0.size))).bs
 have hok := bkTo_ok l l.length
 have hpac := bkTo_pac l l.length
 generalize bkTo l l.length = b at *
 generalize l.length = ln at *
 have HOK : Hid (BkOk b) := hok
 have HPA : Hid (Pac b) := hpac
 have HZ : Hid (SzE e) := hze
 have HEq : Hid (∀ C : Nat, (doB b e).2 = C → (doB b e).2 = C) := fun _ h => h
 clear hs hh hz hr hno hne hok hpac h40 hE0 hb0 hze HEq
 have HDo : Hid (∀ w4 w5 x y, Ow W0 w4 w5 x y b → Calls Tryz.prog 13 #[.pointer (some ⟨y.p, 0, none⟩), agE e] w5 fun r w' => r = .returned (errP s (doB b e).2) ∧ IsBk w' W0.heap.size x b ∧ IsBk w' w4.heap.size y (doB b e).1 ∧ Below w4.heap.size w4 w') := fun w4 w5 x y h => h.doY HZ.out (HS.out _ (h.B4.trans (h.B45.mono h.B4.size)))
 by_cases hC : (doB b e).2 = 0
 ·have hok2 := HOK.out.do_ e
  have HNe : Hid ((doB b e).1 ≠ b) := doB_ne HOK.out hC
  have HSi : Hid (stillK e.1 → ∀ g ∈ b.1, sumsB (doB b e).1 g.1.1 = sumsB b g.1.1 ∧ hasL (doB b e).1.2.2 g.1.1 (doB b e).1.2.1 = hasL b.2.2 g.1.1 b.2.1) := fun hk g hg => ⟨still_sums HOK.out hok2 hk hg, still_has HOK.out HPA.out hk hg⟩
  have HDx : Hid (∀ W x, Below W0.heap.size W0 W → IsBk W W0.heap.size x b → Calls Tryz.prog 13 #[.pointer (some ⟨x.p, 0, none⟩), agE e] W fun r w' => r = .returned .nilIface ∧ IsBk w' W0.heap.size x (doB b e).1 ∧ Off x.all W w') := fun W x hb hx => by
   have := bdo_any W s W0.heap.size x b e hx HZ.out (HS.out _ hb)
   rw [hC] at this
   exact this
  rw [hC] at HDo
  simp only [errP_zero] at HDo
  generalize (doB b e).1 = b2 at *
  clear hC hok2
  have hcs : (stillK e.1 ∧ (∃ m1 m2 m3 m4 : Bool, (e.1.toList == kMove.data.toList) = m1 ∧ (m1 = true ∨ m1 = false ∧ (e.1.toList == kHold.data.toList) = m2 ∧ (m2 = true ∨ m2 = false ∧ (e.1.toList == kFree.data.toList) = m3 ∧ (m3 = true ∨ m3 = false ∧ (e.1.toList == kLot.data.toList) = m4 ∧ (m4 = true ∨ m4 = false ∧ (e.1.toList == kGoods.data.toList) = true)))))) ∨ ((e.1.toList == kMove.data.toList) = false ∧ (e.1.toList == kHold.data.toList) = false ∧ (e.1.toList == kFree.data.toList) = false ∧ (e.1.toList == kLot.data.toList) = false ∧ (e.1.toList == kGoods.data.toList) = false) := by
   by_cases h1 : e.1 = kMove
   ·exact Or.inl ⟨Or.inl h1, true, true, true, true, same_wordR h1, Or.inl rfl⟩
   ·have o1 := other_word h1
    by_cases h2 : e.1 = kHold
    ·exact Or.inl ⟨Or.inr (Or.inl h2), false, true, true, true, o1, Or.inr ⟨rfl, same_wordR h2, Or.inl rfl⟩⟩
    ·have o2 := other_word h2
     by_cases h3 : e.1 = kFree
     ·exact Or.inl ⟨Or.inr (Or.inr (Or.inl h3)), false, false, true, true, o1, Or.inr ⟨rfl, o2, Or.inr ⟨rfl, same_wordR h3, Or.inl rfl⟩⟩⟩
     ·have o3 := other_word h3
      by_cases h4 : e.1 = kLot
      ·exact Or.inl ⟨Or.inr (Or.inr (Or.inr (Or.inl h4))), false, false, false, true, o1, Or.inr ⟨rfl, o2, Or.inr ⟨rfl, o3, Or.inr ⟨rfl, same_wordR h4, Or.inl rfl⟩⟩⟩⟩
      ·have o4 := other_word h4
       by_cases h5 : e.1 = kGoods
       ·exact Or.inl ⟨Or.inr (Or.inr (Or.inr (Or.inr h5))), false, false, false, false, o1, Or.inr ⟨rfl, o2, Or.inr ⟨rfl, o3, Or.inr ⟨rfl, o4, Or.inr ⟨rfl, same_wordR h5⟩⟩⟩⟩⟩
       ·exact Or.inr ⟨o1, o2, o3, o4, other_word h5⟩
  have HEc := HE
  have HDoc := HDo
  rcases hcs with ⟨hst, m1, m2, m3, m4, x1, hcs⟩ | ⟨x1, x2, x3, x4, x5⟩
  ·have HSu : Hid (∀ g ∈ b.1, sumsB b2 g.1.1 = sumsB b g.1.1 ∧ hasL b2.2.2 g.1.1 b2.2.1 = hasL b.2.2 g.1.1 b.2.1) := HSi.out hst
   clear HSi hst
   obtain ⟨ak, ⟨agc, agp⟩, ⟨ali, alc, alu, alk⟩, ⟨afz, afr, afb⟩, ⟨atz, atr, atb⟩, an⟩ := e
   unfold agE celE at *
   simp only at hW0 x1 hcs ⊢
   go_enter Tryz.func3, Tryz.ntmps3
   go_upto_region 11 with (first
    | (go_at_call 8; refine HSt.out.mono ?_; rintro r w1 ⟨rfl, hb1⟩; have HB1 : Hid (Below W0.heap.size W0 w1) := hb1; clear hb1)
    | (go_at_call 9; refine (HLg.out _ HB1.out).mono ?_; rintro r w2 ⟨rfl, hb2⟩; have HB2 : Hid (Below W0.heap.size W0 w2) := HB1.out.trans (hb2.mono HB1.out.size); obtain ⟨s0, s1, s2, s3, s4, s5, s6, s7, s8, s9, s10, s11, s12, s13⟩ := HE.out w2 HB2.out; (try simp only at s0 s1 s2 s3 s4 s5 s6 s7 s8 s9 s10 s11 s12 s13); clear hb2)
    | (go_at_call 10; refine (HLe.out _).mono ?_; rintro r w3 ⟨rfl, hb3⟩; have HB3 : Hid (Below W0.heap.size W0 w3) := HB2.out.trans (hb3.mono HB2.out.size); clear hb3 s0 s1 s2 s3 s4 s5 s6 s7 s8 s9 s10 s11 s12 s13)
    | (go_at_call 11; refine (HOf.out _ HB3.out).mono ?_; rintro r w4 ⟨x, Bq, q, rfl, hI4, hb4⟩; have HI4 : Hid (IsBk w4 W0.heap.size x b) := hI4; have HB4 : Hid (Below W0.heap.size W0 w4) := hb4; clear hI4 hb4)
    | (go_at_call 12; refine (bcopy_any _ _ _ _ HI4.out).mono ?_; rintro r w5 ⟨y, rfl, hy, hb5⟩; have HO5 : Hid (Ow W0 w4 w5 x y b) := ⟨HI4.out, hy, HB4.out, hb5⟩; obtain ⟨s0, s1, s2, s3, s4, s5, s6, s7, s8, s9, s10, s11, s12, s13⟩ := HE.out w5 (HB4.out.trans (hb5.mono HB4.out.size)); (try simp only at s0 s1 s2 s3 s4 s5 s6 s7 s8 s9 s10 s11 s12 s13); clear hy hb5)
    | (go_at_call 13; refine (HDo.out _ _ _ _ HO5.out).mono ?_; rintro r w6 ⟨rfl, hX6, hY6, hb6⟩; have HX6 : Hid (IsBk w6 W0.heap.size x b) := hX6; have HY6 : Hid (IsBk w6 w4.heap.size y b2) := hY6; have HB6 : Hid (Below W0.heap.size W0 w6) := HB4.out.trans (hb6.mono HB4.out.size); clear hX6 hY6 hb6 s0 s1 s2 s3 s4 s5 s6 s7 s8 s9 s10 s11 s12 s13)
    | (go_at_call 15; refine (bgoods_any _ _ _ _ HX6.out).mono ?_; rintro r w7 ⟨vg, rfl, hg7, hb7⟩; obtain ⟨pg, cg, rfl, hg7'⟩ := hg7.shape2; have HX7 : Hid (IsBk w7 W0.heap.size x b) := HX6.out.below hb7; have HY7 : Hid (IsBk w7 w4.heap.size y b2) := HY6.out.below hb7; have HG7 : Hid (∀ i z W, b.1[i]? = some z → Below w7.heap.size w7 W → ∃ g, pg = some ⟨g, 0, none⟩ ∧ W.cell? ⟨g, i * 2, none⟩ = some (.string z.1.1)) := (fun i z W hz hW => by obtain ⟨g, h1, h2, h3⟩ := hg7' i z hz; exact ⟨g, h1, (hW.cell (p := ⟨g, i * 2, none⟩) h2).trans h3⟩); have HB7 : Hid (Below W0.heap.size W0 w7) := HB6.out.trans (hb7.mono HB6.out.size); have s0 := (HE.out w7 HB7.out).c0; (try simp only at s0); clear hg7 hg7' hb7))
   go_cut [11] from 46 to 68 (fun s11 wc => s11 = .bool true ∧ w7 = wc)
   case first =>
    rcases hcs with rfl | ⟨rfl, x2, rfl | ⟨rfl, x3, rfl | ⟨rfl, x4, rfl | ⟨rfl, x5⟩⟩⟩⟩
    all_goals
     go_wp2_with fail
     go_meet
     exact ⟨rfl, rfl⟩
   case rest =>
   obtain ⟨rfl, rfl⟩ := hcut
   clear s0 hcs x1
   go_wp2_with fail
   have hgl30 : b.1.length ≤ 30 := HOK.out.wf.gl
   obtain ⟨nG, hnG⟩ : ∃ nG, nG = b.1.length := ⟨_, rfl⟩
   rw [← hnG] at hgl30 ⊢
   have HnG : Hid (nG = b.1.length) := hnG
   clear hnG
   go_loopw [12] (fun i wr => ∃ k : Nat, k ≤ nG ∧ i = .int .i64 k ∧ Below w7.heap.size w7 wr) (fun i _ => nG - (RowKit.intOf i).toNat)
   case atStart => exact ⟨0, Nat.zero_le _, rfl, Below.refl _ _⟩
   case round =>
    obtain ⟨k, hk, rfl, hwr⟩ := hrel
    have Hwr : Hid (Below w7.heap.size w7 wr) := hwr
    clear hwr
    by_cases hlt : k < nG
    ·obtain ⟨z, hzk⟩ : ∃ z, b.1[k]? = some z := ⟨_, List.getElem?_eq_getElem (by rw [← HnG.out]; exact hlt)⟩
     have hzm := List.mem_of_getElem? hzk
     obtain ⟨g, rfl, hc0⟩ := HG7.out k z wr hzk Hwr.out
     obtain ⟨hsu, hha⟩ := HSu.out z hzm
     have hsz := HX7.out.sizeG hzm
     have hbR : ∀ d os, Below w7.heap.size w7 (grow (redrawn wr d) os) := fun d os => Hwr.out.trans ((below_regrown wr d os).mono Hwr.out.size)
     have cSx := fun d os => Calls.regrown_of (w := wr) (d := d) (os := os) (bsums_any z.1.1 _ W0.heap.size x b (HX7.out.below (hbR d os)) hsz)
     have cSy := fun d os => Calls.regrown_of (w := wr) (d := d) (os := os) (bsums_any z.1.1 _ w4.heap.size y b2 (HY7.out.below (hbR d os)) hsz)
     have cHx := fun d os => Calls.regrown_of (w := wr) (d := d) (os := os) (bhas_any z.1.1 _ W0.heap.size x b (HX7.out.below (hbR d os)))
     have cHy := fun d os => Calls.regrown_of (w := wr) (d := d) (os := os) (bhas_any z.1.1 _ w4.heap.size y b2 (HY7.out.below (hbR d os)))
     rw [hsu] at cSy
     rw [hha] at cHy
     unfold agU at cSx cSy
     have hq := fun W => eqU_run (sumsB b z.1.1) (sumsB b z.1.1) W
     have hgd := Tryz.guardU
     clear hzk hzm hsu hha hsz
     generalize z.1.1 = zc at *
     generalize sumsB b zc = su at *
     generalize hasL b.2.2 zc b.2.1 = hv at *
     obtain ⟨u0, u1, u2, u3⟩ := su
     simp only [decide_true] at hq
     simp only at cSx cSy
     have j0 := cell_regrown hc0
     go_wp2_with fail
     refine wp_region_quiet_below (by kernel_rfl) (by kernel_rfl) ?_
     repeat (first | go_big_quiet_skip | quiet_step (first
      | (go_at_call_of 16 (Value.pointer (some ⟨x.p, 0, none⟩)); exact cSx _ _)
      | (go_at_call_of 16 (Value.pointer (some ⟨y.p, 0, none⟩)); exact cSy _ _)
      | (go_at_call_of 17 (Value.pointer (some ⟨x.p, 0, none⟩)); exact cHx _ _)
      | (go_at_call_of 17 (Value.pointer (some ⟨y.p, 0, none⟩)); exact cHy _ _)))
     refine wpQuiet_nil ?_
     intro _ hw'
     obtain ⟨⟨dq, osq⟩, hw''⟩ := hw'
     subst hw''
     have HBE : Hid (Below w7.heap.size w7 (grow (redrawn wr dq) osq)) := hbR dq osq
     clear cSx cSy cHx cHy hbR j0 hc0
     generalize grow (redrawn wr dq) osq = WE at *
     go_wp2
     go_roundw
     case rel => exact ⟨k + 1, by omega, by go_num, HBE.out⟩
     case measure => simp [RowKit.intOf]; omega
    ·have HX8 : Hid (IsBk wr W0.heap.size x b) := HX7.out.below Hwr.out
     have HY8 : Hid (IsBk wr w4.heap.size y b2) := HY7.out.below Hwr.out
     have HB8 : Hid (Below W0.heap.size W0 wr) := HB7.out.trans (Hwr.out.mono HB7.out.size)
     have HS1 : Hid (Calls Tryz.prog 14 _ wr _) := same_any wr _ _ x y b b2 HX8.out HY8.out false (by simpa using HNe.out.symm)
     go_wp2_with (first
      | (go_at_call 14; refine HS1.out.mono ?_; clear HS1; rintro r w9 ⟨rfl, hb9⟩; have HX9 : Hid (IsBk w9 W0.heap.size x b) := HX8.out.below hb9; have HY9 : Hid (IsBk w9 w4.heap.size y b2) := HY8.out.below hb9; have HB9 : Hid (Below W0.heap.size W0 w9) := HB8.out.trans (hb9.mono HB8.out.size); obtain ⟨s0, s1, s2, s3, s4, s5, s6, s7, s8, s9, s10, s11, s12, s13⟩ := HE.out w9 HB9.out; (try simp only at s0 s1 s2 s3 s4 s5 s6 s7 s8 s9 s10 s11 s12 s13); clear hb9)
      | (go_at_call 13; refine (HDx.out _ _ HB9.out HX9.out).mono ?_; rintro r wa ⟨rfl, hXa, hfa⟩; have hba : Below W0.heap.size w9 wa := hfa.below HB9.out.size (fun k hk => (HX9.out.low k hk).1); have hXl : ∀ k ∈ x.all, k < w4.heap.size := (fun k hk => (HO5.out.X4.low k hk).2); have HSa : Hid (Calls Tryz.prog 14 _ wa _) := same_any wa _ _ x y b2 b2 hXa (HY9.out.off hfa hXl) true (by simp); have HBa : Hid (Below W0.heap.size W0 wa) := HB9.out.trans hba; clear hXa hfa hba hXl)
      | (go_at_call 14; refine HSa.out.mono ?_; rintro r wb ⟨rfl, hbb⟩; have HBb : Hid (Below W0.heap.size W0 wb) := HBa.out.trans (hbb.mono HBa.out.size)))
     go_ret
     exact ⟨rfl, HB0.out.trans (HBb.out.mono HB0.out.size)⟩
  ·clear HSi
   obtain ⟨ak, ⟨agc, agp⟩, ⟨ali, alc, alu, alk⟩, ⟨afz, afr, afb⟩, ⟨atz, atr, atb⟩, an⟩ := e
   unfold agE celE at *
   simp only at hW0 x1 x2 x3 x4 x5 ⊢
   go_enter Tryz.func3, Tryz.ntmps3
   go_wp2_with (first
    | (go_at_call 8; refine HSt.out.mono ?_; rintro r w1 ⟨rfl, hb1⟩; have HB1 : Hid (Below W0.heap.size W0 w1) := hb1; clear hb1)
    | (go_at_call 9; refine (HLg.out _ HB1.out).mono ?_; rintro r w2 ⟨rfl, hb2⟩; have HB2 : Hid (Below W0.heap.size W0 w2) := HB1.out.trans (hb2.mono HB1.out.size); obtain ⟨s0, s1, s2, s3, s4, s5, s6, s7, s8, s9, s10, s11, s12, s13⟩ := HE.out w2 HB2.out; (try simp only at s0 s1 s2 s3 s4 s5 s6 s7 s8 s9 s10 s11 s12 s13); clear hb2)
    | (go_at_call 10; refine (HLe.out _).mono ?_; rintro r w3 ⟨rfl, hb3⟩; have HB3 : Hid (Below W0.heap.size W0 w3) := HB2.out.trans (hb3.mono HB2.out.size); clear hb3 s0 s1 s2 s3 s4 s5 s6 s7 s8 s9 s10 s11 s12 s13)
    | (go_at_call 11; refine (HOf.out _ HB3.out).mono ?_; rintro r w4 ⟨x, Bq, q, rfl, hI4, hb4⟩; have HI4 : Hid (IsBk w4 W0.heap.size x b) := hI4; have HB4 : Hid (Below W0.heap.size W0 w4) := hb4; clear hI4 hb4)
    | (go_at_call 12; refine (bcopy_any _ _ _ _ HI4.out).mono ?_; rintro r w5 ⟨y, rfl, hy, hb5⟩; have HO5 : Hid (Ow W0 w4 w5 x y b) := ⟨HI4.out, hy, HB4.out, hb5⟩; obtain ⟨s0, s1, s2, s3, s4, s5, s6, s7, s8, s9, s10, s11, s12, s13⟩ := HE.out w5 (HB4.out.trans (hb5.mono HB4.out.size)); (try simp only at s0 s1 s2 s3 s4 s5 s6 s7 s8 s9 s10 s11 s12 s13); clear hy hb5)
    | (go_at_call 13; refine (HDo.out _ _ _ _ HO5.out).mono ?_; rintro r w6 ⟨rfl, hX6, hY6, hb6⟩; have HX6 : Hid (IsBk w6 W0.heap.size x b) := hX6; have HY6 : Hid (IsBk w6 w4.heap.size y b2) := hY6; have HB6 : Hid (Below W0.heap.size W0 w6) := HB4.out.trans (hb6.mono HB4.out.size); clear hX6 hY6 hb6 s0 s1 s2 s3 s4 s5 s6 s7 s8 s9 s10 s11 s12 s13)
    | (go_at_call 15; refine (bgoods_any _ _ _ _ HX6.out).mono ?_; rintro r w7 ⟨vg, rfl, hg7, hb7⟩; obtain ⟨pg, cg, rfl, _⟩ := hg7.shape2; have HX7 : Hid (IsBk w7 W0.heap.size x b) := HX6.out.below hb7; have HY7 : Hid (IsBk w7 w4.heap.size y b2) := HY6.out.below hb7; have HB7 : Hid (Below W0.heap.size W0 w7) := HB6.out.trans (hb7.mono HB6.out.size); have s0 := (HE.out w7 HB7.out).c0; (try simp only at s0); clear hg7 hb7))
   clear s0
   have hgl30 : b.1.length ≤ 30 := HOK.out.wf.gl
   obtain ⟨nG, hnG⟩ : ∃ nG, nG = b.1.length := ⟨_, rfl⟩
   rw [← hnG] at hgl30 ⊢
   clear hnG
   go_loopw [12] (fun i wr => ∃ k : Nat, k ≤ nG ∧ i = .int .i64 k ∧ Below w7.heap.size w7 wr) (fun i _ => nG - (RowKit.intOf i).toNat)
   case atStart => exact ⟨0, Nat.zero_le _, rfl, Below.refl _ _⟩
   case round =>
    obtain ⟨k, hk, rfl, hwr⟩ := hrel
    have Hwr : Hid (Below w7.heap.size w7 wr) := hwr
    clear hwr
    by_cases hlt : k < nG
    ·go_wp2_with fail
     refine wp_region_quiet_below (by kernel_rfl) (by kernel_rfl) ?_
     repeat (first | go_big_quiet_skip | quiet_step (fail))
     refine wpQuiet_nil ?_
     intro _ hw'
     obtain ⟨⟨dq, osq⟩, hw''⟩ := hw'
     subst hw''
     have HBE : Hid (Below w7.heap.size w7 (grow (redrawn wr dq) osq)) := Hwr.out.trans ((below_regrown wr dq osq).mono Hwr.out.size)
     generalize grow (redrawn wr dq) osq = WE at *
     go_wp2
     go_roundw
     case rel => exact ⟨k + 1, by omega, by go_num, HBE.out⟩
     case measure => simp [RowKit.intOf]; omega
    ·have HX8 : Hid (IsBk wr W0.heap.size x b) := HX7.out.below Hwr.out
     have HY8 : Hid (IsBk wr w4.heap.size y b2) := HY7.out.below Hwr.out
     have HB8 : Hid (Below W0.heap.size W0 wr) := HB7.out.trans (Hwr.out.mono HB7.out.size)
     have HS1 : Hid (Calls Tryz.prog 14 _ wr _) := same_any wr _ _ x y b b2 HX8.out HY8.out false (by simpa using HNe.out.symm)
     go_wp2_with (first
      | (go_at_call 14; refine HS1.out.mono ?_; clear HS1; rintro r w9 ⟨rfl, hb9⟩; have HX9 : Hid (IsBk w9 W0.heap.size x b) := HX8.out.below hb9; have HY9 : Hid (IsBk w9 w4.heap.size y b2) := HY8.out.below hb9; have HB9 : Hid (Below W0.heap.size W0 w9) := HB8.out.trans (hb9.mono HB8.out.size); obtain ⟨s0, s1, s2, s3, s4, s5, s6, s7, s8, s9, s10, s11, s12, s13⟩ := HE.out w9 HB9.out; (try simp only at s0 s1 s2 s3 s4 s5 s6 s7 s8 s9 s10 s11 s12 s13); clear hb9)
      | (go_at_call 13; refine (HDx.out _ _ HB9.out HX9.out).mono ?_; rintro r wa ⟨rfl, hXa, hfa⟩; have hba : Below W0.heap.size w9 wa := hfa.below HB9.out.size (fun k hk => (HX9.out.low k hk).1); have hXl : ∀ k ∈ x.all, k < w4.heap.size := (fun k hk => (HO5.out.X4.low k hk).2); have HSa : Hid (Calls Tryz.prog 14 _ wa _) := same_any wa _ _ x y b2 b2 hXa (HY9.out.off hfa hXl) true (by simp); have HBa : Hid (Below W0.heap.size W0 wa) := HB9.out.trans hba; clear hXa hfa hba hXl)
      | (go_at_call 14; refine HSa.out.mono ?_; rintro r wb ⟨rfl, hbb⟩; have HBb : Hid (Below W0.heap.size W0 wb) := HBa.out.trans (hbb.mono HBa.out.size)))
     go_ret
     exact ⟨rfl, HB0.out.trans (HBb.out.mono HB0.out.size)⟩
 ·have hsame := doB_same HOK.out hC
  rw [hsame] at HDo
  simp only [errP_pos s hC] at HDo
  generalize s ((doB b e).2 - 1) = ad at *
  clear hC hsame HS
  obtain ⟨ak, ⟨agc, agp⟩, ⟨ali, alc, alu, alk⟩, ⟨afz, afr, afb⟩, ⟨atz, atr, atb⟩, an⟩ := e
  unfold agE celE at *
  simp only at hW0 ⊢
  go_enter Tryz.func3, Tryz.ntmps3
  go_wp2_with (first
   | (go_at_call 8; refine HSt.out.mono ?_; rintro r w1 ⟨rfl, hb1⟩; have HB1 : Hid (Below W0.heap.size W0 w1) := hb1; clear hb1)
   | (go_at_call 9; refine (HLg.out _ HB1.out).mono ?_; rintro r w2 ⟨rfl, hb2⟩; have HB2 : Hid (Below W0.heap.size W0 w2) := HB1.out.trans (hb2.mono HB1.out.size); obtain ⟨s0, s1, s2, s3, s4, s5, s6, s7, s8, s9, s10, s11, s12, s13⟩ := HE.out w2 HB2.out; (try simp only at s0 s1 s2 s3 s4 s5 s6 s7 s8 s9 s10 s11 s12 s13); clear hb2)
   | (go_at_call 10; refine (HLe.out _).mono ?_; rintro r w3 ⟨rfl, hb3⟩; have HB3 : Hid (Below W0.heap.size W0 w3) := HB2.out.trans (hb3.mono HB2.out.size); clear hb3 s0 s1 s2 s3 s4 s5 s6 s7 s8 s9 s10 s11 s12 s13)
   | (go_at_call 11; refine (HOf.out _ HB3.out).mono ?_; rintro r w4 ⟨x, Bq, q, rfl, hI4, hb4⟩; have HI4 : Hid (IsBk w4 W0.heap.size x b) := hI4; have HB4 : Hid (Below W0.heap.size W0 w4) := hb4; clear hI4 hb4)
   | (go_at_call 12; refine (bcopy_any _ _ _ _ HI4.out).mono ?_; rintro r w5 ⟨y, rfl, hy, hb5⟩; have HO5 : Hid (Ow W0 w4 w5 x y b) := ⟨HI4.out, hy, HB4.out, hb5⟩; obtain ⟨s0, s1, s2, s3, s4, s5, s6, s7, s8, s9, s10, s11, s12, s13⟩ := HE.out w5 (HB4.out.trans (hb5.mono HB4.out.size)); (try simp only at s0 s1 s2 s3 s4 s5 s6 s7 s8 s9 s10 s11 s12 s13); clear hy hb5)
   | (go_at_call 13; refine (HDo.out _ _ _ _ HO5.out).mono ?_; rintro r w6 ⟨rfl, hX6, hY6, hb6⟩; have HSm : Hid (Calls Tryz.prog 14 _ w6 _) := same_any w6 _ _ x y b b hX6 hY6 true (by simp); have HB6 : Hid (Below W0.heap.size W0 w6) := HB4.out.trans (hb6.mono HB4.out.size); clear hX6 hY6 hb6 s0 s1 s2 s3 s4 s5 s6 s7 s8 s9 s10 s11 s12 s13)
   | (go_at_call 14; refine HSm.out.mono ?_; rintro r w7 ⟨rfl, hb7⟩; have HB7 : Hid (Below W0.heap.size W0 w7) := HB6.out.trans (hb7.mono HB6.out.size)))
  go_ret
  exact ⟨rfl, HB0.out.trans (HB7.out.mono HB0.out.size)⟩
theorem bookOrder_long (v : Value) (e : En) (w : World) (s : Nat → Addr) (hs : Sent w s) (hL : ∀ W, Below w.heap.size w W → Calls Tryz.prog 9 #[v, .int .i64 40] W fun r w' => r = .returned (.int .i64 1) ∧ Below W.heap.size W w') :
  Calls Tryz.prog 3 #[v, agE e] w fun r w' => r = .returned (.bool true) ∧ Below w.heap.size w w' := by
 have hb0 : Below w.heap.size w (w.alloc (celE e)) := (Below.refl _ w).alloc (Nat.le_refl _) _
 obtain ⟨W0, hW0⟩ : ∃ W0, w.alloc (celE e) = W0 := ⟨_, rfl⟩
 rw [hW0] at hb0
 have HB0 : Hid (Below w.heap.size w W0) := hb0
 have HSt : Hid (Calls Tryz.prog 8 _ _ _) := started_any W0 s (hs.below hb0).bs
 have HL : Hid (∀ W, Below w.heap.size w W → Calls Tryz.prog 9 #[v, .int .i64 40] W _) := hL
 clear hs hL hb0
 obtain ⟨ak, ⟨agc, agp⟩, ⟨ali, alc, alu, alk⟩, ⟨afz, afr, afb⟩, ⟨atz, atr, atb⟩, an⟩ := e
 unfold agE celE at *
 simp only at hW0 ⊢
 go_enter Tryz.func3, Tryz.ntmps3
 go_wp2_with (first
  | (go_at_call 8; refine HSt.out.mono ?_; rintro r w1 ⟨rfl, hb1⟩; have HB1 : Hid (Below w.heap.size w w1) := HB0.out.trans (hb1.mono HB0.out.size); clear hb1)
  | (go_at_call 9; refine (HL.out _ HB1.out).mono ?_; rintro r w2 ⟨rfl, hb2⟩; have HB2 : Hid (Below w.heap.size w w2) := HB1.out.trans (hb2.mono HB1.out.size); clear hb2))
 go_ret
 exact ⟨rfl, HB2.out⟩
theorem bookOrder_far (v : Value) (e : En) (w : World) (s : Nat → Addr) (hs : Sent w s) (hz : SzE e) (hne : longE e = true) (hL : ∀ W, Below w.heap.size w W → Calls Tryz.prog 9 #[v, .int .i64 40] W fun r w' => r = .returned (.int .i64 0) ∧ Below W.heap.size W w') :
  Calls Tryz.prog 3 #[v, agE e] w fun r w' => r = .returned (.bool true) ∧ Below w.heap.size w w' := by
 have hE0 := BlkE.new w e
 have hb0 : Below w.heap.size w (w.alloc (celE e)) := (Below.refl _ w).alloc (Nat.le_refl _) _
 obtain ⟨W0, hW0⟩ : ∃ W0, w.alloc (celE e) = W0 := ⟨_, rfl⟩
 rw [hW0] at hb0 hE0
 have HB0 : Hid (Below w.heap.size w W0) := hb0
 have HE : Hid (∀ W, Below W0.heap.size W0 W → EntAt W w.heap.size e) := fun W hb => (hE0.below hb).at
 have HSt : Hid (Calls Tryz.prog 8 _ _ _) := started_any W0 s (hs.below hb0).bs
 have HL : Hid (∀ W, Below W0.heap.size W0 W → Calls Tryz.prog 9 #[v, .int .i64 40] W _) := fun W hb => hL W (hb0.trans (hb.mono hb0.size))
 have HLe : Hid (∀ W, Calls Tryz.prog 10 #[agE e] W fun r w' => r = .returned (.int .i64 1) ∧ Below W.heap.size W w') := fun W => by
  have := long_any e W hz
  rw [hne] at this
  exact this
 clear hs hL hb0 hE0 hz hne
 obtain ⟨ak, ⟨agc, agp⟩, ⟨ali, alc, alu, alk⟩, ⟨afz, afr, afb⟩, ⟨atz, atr, atb⟩, an⟩ := e
 unfold agE celE at *
 simp only at hW0 ⊢
 go_enter Tryz.func3, Tryz.ntmps3
 go_wp2_with (first
  | (go_at_call 8; refine HSt.out.mono ?_; rintro r w1 ⟨rfl, hb1⟩; have HB1 : Hid (Below W0.heap.size W0 w1) := hb1; clear hb1)
  | (go_at_call 9; refine (HL.out _ HB1.out).mono ?_; rintro r w2 ⟨rfl, hb2⟩; have HB2 : Hid (Below W0.heap.size W0 w2) := HB1.out.trans (hb2.mono HB1.out.size); obtain ⟨s0, s1, s2, s3, s4, s5, s6, s7, s8, s9, s10, s11, s12, s13⟩ := HE.out w2 HB2.out; (try simp only at s0 s1 s2 s3 s4 s5 s6 s7 s8 s9 s10 s11 s12 s13); clear hb2)
  | (go_at_call 10; refine (HLe.out _).mono ?_; rintro r w3 ⟨rfl, hb3⟩; have HB3 : Hid (Below W0.heap.size W0 w3) := HB2.out.trans (hb3.mono HB2.out.size); clear hb3))
 go_ret
 exact ⟨rfl, HB0.out.trans (HB3.out.mono HB0.out.size)⟩
theorem bookOrder_any (v : Value) (e : En) (w : World) (s : Nat → Addr) (hs : Sent w s) (hh : Handle w) (hze : SzE e) (ho : (∃ ad c, v = .slice ad 0 c) ∨ ∃ b off c l, 1 ≤ l.length ∧ l.length ≤ maxLen ∧ v = .slice (some ⟨b, off, none⟩) l.length c ∧ Ents w b off l ∧ ∀ e ∈ l, SzE e) :
  Calls Tryz.prog 3 #[v, agE e] w fun r w' => r = .returned (.bool true) ∧ Below w.heap.size w w' := by
 rcases ho with ⟨ad, c, rfl⟩ | ⟨b, off, c, l, h1, hm, rfl, hE, hz⟩
 ·cases hne : longE e with
  | false => exact bookOrder_in ad [] c e w s hs hh (by simp) hze (Or.inl rfl) (by decide) rfl hne
  | true =>
   refine bookOrder_far _ e w s hs hze hne fun W hb => ?_
   refine (longs_none ad c 40 W (by decide)).mono ?_
   rintro r w' ⟨rfl, rfl⟩
   exact ⟨rfl, Below.refl _ _⟩
 ·by_cases h40 : l.length ≤ 40
  ·have hL := fun W (hb : Below w.heap.size w W) => longs_some l b off c 40 W (hE.below hE.lt hb) hz (by omega) (by decide)
   cases hl : longs l with
   | false =>
    rw [hl] at hL
    cases hne : longE e with
    | false => exact bookOrder_in _ l c e w s hs hh hz hze (Or.inr ⟨b, off, rfl, hE⟩) h40 hl hne
    | true => exact bookOrder_far _ e w s hs hze hne hL
   | true =>
    rw [hl] at hL
    exact bookOrder_long _ e w s hs hL
  ·refine bookOrder_long _ e w s hs fun W hb => ?_
   refine (longs_many (some ⟨b, off, none⟩) l.length c 40 W (by omega)).mono ?_
   rintro r w' ⟨rfl, rfl⟩
   exact ⟨rfl, Below.refl _ _⟩
end Go.Proofs.YteomomeigbfeoaaGreatDoor
