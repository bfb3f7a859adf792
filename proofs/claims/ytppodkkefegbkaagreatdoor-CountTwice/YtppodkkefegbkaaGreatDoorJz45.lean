/-
 The law CountTwice answers true of at most forty entries, none too long, and a sheet that is not too long, in every memory in which the errors are laid; nothing
-/
import Derived.Test.YtppodkkefegbkaaGreatDoorJz20
import Derived.Test.YtppodkkefegbkaaGreatDoorJz15
import Derived.Test.YtppodkkefegbkaaGreatDoorJz30
import Derived.Test.YtppodkkefegbkaaGreatDoorQOf
import Derived.Test.YtppodkkefegbkaaGreatDoorJz33
import Derived.Test.YtppodkkefegbkaaGreatDoorQDo
import Derived.Test.YtppodkkefegbkaaGreatDoorJz18
import Derived.Lib.QuietBelow
import Derived.BigQuiet
set_option maxRecDepth 100000
set_option maxHeartbeats 16000000
namespace Go.Proofs.YtppodkkefegbkaaGreatDoor
open Go.RowKit Go.Lib Go.Sort
theorem counted_any {s : Nat → Addr} (C : CountK s) (w : World) (hs : Sent w s) : Calls Tryz.prog 6 #[] w fun e w' => e = .returned (.bool true) ∧ Below w.heap.size w w' := by
 have HC : Hid (∀ W q, Below w.heap.size w W → LineAt W q 0 ((⟨#[97]⟩, 1, 1), ⟨#[108, 49]⟩, 5) → Calls Tryz.prog 15 #[.slice (some ⟨q, 0, none⟩) 1 1] W fun e w' => e = .returned .nilIface ∧ Below W.heap.size W w') := fun W q hb hl => (C.check W (some ⟨q, 0, none⟩) [((⟨#[97]⟩, 1, 1), ⟨#[108, 49]⟩, 5)] 1 (hs.below hb) (Or.inr ⟨q, 0, rfl, hl.lt, fun k x hx => by
   cases k with
   | zero => cases hx; exact hl
   | succ k => simp at hx⟩) (by decide) (by decide) (fun x hx => by
   rw [List.mem_singleton.1 hx]
   exact ⟨by show (1 : Nat) ≤ maxLen; unfold maxLen; decide, by show (2 : Nat) ≤ maxLen; unfold maxLen; decide⟩)).mono fun e w' ⟨h1, h2⟩ => by
  rcases h1 with ⟨_, h3⟩ | ⟨k, hk, _, hne, _⟩
  ·exact ⟨h3, h2⟩
  ·obtain rfl : k = 0 := by simp at hk; omega
   exact absurd own_sheet hne
 have HD1 : Hid (∀ W, Calls Tryz.prog 17 #[.string ⟨#[97]⟩, .int .i64 0, .int .i64 30] W fun e w' => e = .returned (.bool true) ∧ Below W.heap.size W w') := fun W => by
  have := C.due W clA 0 30 ⟨by decide, by decide⟩ ⟨by decide, by decide⟩
  rw [due_own.1] at this
  exact this
 have HD2 : Hid (∀ W, Calls Tryz.prog 17 #[.string ⟨#[97]⟩, .int .i64 0, .int .i64 29] W fun e w' => e = .returned (.bool false) ∧ Below W.heap.size W w') := fun W => by
  have := C.due W clA 0 29 ⟨by decide, by decide⟩ ⟨by decide, by decide⟩
  rw [due_own.2] at this
  exact this
 clear C hs
 obtain ⟨U1, hU1⟩ : ∃ U1, w.alloc (.cells #[.string ⟨#[97]⟩, .int .i64 1, .int .i64 1] 41) = U1 := ⟨_, rfl⟩
 have hb1 : Below w.heap.size w U1 := hU1 ▸ (Below.refl _ w).alloc (Nat.le_refl _) _
 have k0 : U1.cell? ⟨w.heap.size, 0, none⟩ = some (.string ⟨#[97]⟩) := by rw [← hU1, World.cell?_alloc_at _ _ _ _ rfl]; rfl
 have k1 : U1.cell? ⟨w.heap.size, 1, none⟩ = some (.int .i64 1) := by rw [← hU1, World.cell?_alloc_at _ _ _ _ rfl]; rfl
 have k2 : U1.cell? ⟨w.heap.size, 2, none⟩ = some (.int .i64 1) := by rw [← hU1, World.cell?_alloc_at _ _ _ _ rfl]; rfl
 obtain ⟨U2, hU2⟩ : ∃ U2, U1.alloc (.cells #[.string ⟨#[97]⟩, .int .i64 1, .int .i64 1, .string ⟨#[108, 49]⟩, .int .i64 5] 48) = U2 := ⟨_, rfl⟩
 have hl2 : LineAt U2 U1.heap.size 0 ((⟨#[97]⟩, 1, 1), ⟨#[108, 49]⟩, 5) := hU2 ▸ LineAt.new U1 (((⟨#[97]⟩, 1, 1), ⟨#[108, 49]⟩, 5) : Ln) _ _ rfl
 have hb2 : Below w.heap.size w U2 := hU2 ▸ hb1.alloc hb1.size _
 have HCk : Hid (Calls Tryz.prog 15 _ U2 _) := HC.out U2 _ hb2 hl2
 have HB2 : Hid (Below w.heap.size w U2) := hb2
 clear hb1 hb2 hl2
 go_enter Tryz.func6, Tryz.ntmps6
 go_wp2_with (first
  | (go_at_call 15; refine HCk.out.mono ?_; rintro r w3 ⟨rfl, hb3⟩; have HB3 : Hid (Below w.heap.size w w3) := HB2.out.trans (hb3.mono HB2.out.size); clear hb3)
  | (go_at_call 17; refine (HD1.out _).mono ?_; clear HD1; rintro r w4 ⟨rfl, hb4⟩; have HB4 : Hid (Below w.heap.size w w4) := HB3.out.trans (hb4.mono HB3.out.size); clear hb4)
  | (go_at_call 17; refine (HD2.out _).mono ?_; rintro r w5 ⟨rfl, hb5⟩; have HB5 : Hid (Below w.heap.size w w5) := HB4.out.trans (hb5.mono HB4.out.size); clear hb5))
 go_ret
 exact ⟨rfl, HB5.out⟩
theorem countTwice_bad {s : Nat → Addr} (K : CountK s) (C : CountD s) (pp : Option Addr) (l : List En) (cap : Nat) (qq : Option Addr) (sh : List Ln) (cap2 : Nat) (w : World) (hs : Sent w s) (hh : Handle w) (hz : ∀ e ∈ l, SzE e) (hr : l = [] ∨ ∃ bq off, pp = some ⟨bq, off, none⟩ ∧ Ents w bq off l) (h40 : l.length ≤ 40) (hno : longs l = false) (hq : ShIn w qq sh) (hcap : sh.length ≤ cap2) (h30 : sh.length ≤ 30) (hqz : ∀ x ∈ sh, SzL x) (hql : longsL sh = false) (hbad : ¬ ((∀ j, j < sh.length → sheetE sh j = 0) ∧ ∀ j, j < sh.length → noneS (bkTo l l.length) sh j = 0)) :
  Calls Tryz.prog 3 #[.slice pp l.length cap, .slice qq sh.length cap2] w fun r w' => r = .returned (.bool true) ∧ Below w.heap.size w w' := by
 have HCo : Hid (Calls Tryz.prog 6 _ _ _) := counted_any K w hs
 have HLg : Hid (∀ W, Below w.heap.size w W → Calls Tryz.prog 7 #[.slice pp l.length cap, .int .i64 40] W _) := longs_zero hz hr h40 hno
 have HLs : Hid (∀ W, Below w.heap.size w W → Calls Tryz.prog 8 #[.slice qq sh.length cap2] W fun r w' => r = .returned (.int .i64 0) ∧ w' = W) := fun W hb => by
  have := lsheet_any qq sh cap2 W (hq.on hb) h30 hqz
  rw [show longN sh = 0 by unfold longN; rw [hql]; rfl] at this
  exact this
 have HOf : Hid (∀ W, Below w.heap.size w W → Calls Tryz.prog 9 #[.slice pp l.length cap] W fun e w' => ∃ x q, e = .returned (.tuple #[.pointer (some ⟨x.p, 0, none⟩), .pointer (some ⟨q, 0, none⟩), .bool true]) ∧ IsBk w' w.heap.size x (bkTo l l.length) ∧ Below w.heap.size w w') := fun W hb =>
  (bookOf_any pp l cap W s (hs.below hb) (hh.below hb) hz (ents_on hr hb) (by omega)).mono fun r w' ⟨x, Bq, q, h1, h2⟩ => ⟨x, q, h1, h2.prog.mono hb.size, hb.trans (h2.below.mono hb.size)⟩
 have HDf : Hid (∀ W x, IsBk W w.heap.size x (bkTo l l.length) → Below w.heap.size w W → Calls Tryz.prog 10 #[.pointer (some ⟨x.p, 0, none⟩), .slice qq sh.length cap2] W fun e w' => (∃ p c a, e = .returned (.tuple #[.slice p 0 c, .iface 83 (.pointer (some ⟨a, 0, none⟩))])) ∧ Below W.heap.size W w') := fun W x hI hb => C.diffE (hs.below hb) hI (hq.on hb) hcap h30 hqz hbad
 generalize bkTo l l.length = b at *
 generalize sh.length = ln at *
 generalize l.length = le at *
 clear K C hs hh hz hr hno hq hqz hql hbad hcap
 go_enter Tryz.func3, Tryz.ntmps3
 go_wp2_with (first
  | (go_at_call 6; refine HCo.out.mono ?_; rintro r w1 ⟨rfl, hb1⟩; have HB1 : Hid (Below w.heap.size w w1) := hb1; clear hb1)
  | (go_at_call 7; refine (HLg.out _ HB1.out).mono ?_; rintro r w2 ⟨rfl, hb2⟩; have HB2 : Hid (Below w.heap.size w w2) := HB1.out.trans (hb2.mono HB1.out.size); clear hb2)
  | (go_at_call 8; refine (HLs.out _ HB2.out).mono ?_; rintro r w3 ⟨rfl, hw3⟩; have hw3' := hw3.symm; subst hw3')
  | (go_at_call 9; refine (HOf.out _ HB2.out).mono ?_; rintro r w4 ⟨x, q, rfl, hI4, hb4⟩; have HI4 : Hid (IsBk w4 w.heap.size x b) := hI4; have HB4 : Hid (Below w.heap.size w w4) := hb4; have HDf4 : Hid (Calls Tryz.prog 10 _ w4 _) := HDf.out w4 x hI4 hb4; clear hI4 hb4)
  | (go_at_call 10; refine HDf4.out.mono ?_; rintro r w5 ⟨⟨p, c, a, rfl⟩, hb5⟩; have HB5 : Hid (Below w.heap.size w w5) := HB4.out.trans (hb5.mono HB4.out.size); clear hb5))
 go_ret
 exact ⟨rfl, HB5.out⟩
theorem countTwice_fine {s : Nat → Addr} (K : CountK s) (C : CountD s) (pp : Option Addr) (l : List En) (cap : Nat) (qq : Option Addr) (sh : List Ln) (cap2 : Nat) (w : World) (hs : Sent w s) (hh : Handle w) (hz : ∀ e ∈ l, SzE e) (hr : l = [] ∨ ∃ bq off, pp = some ⟨bq, off, none⟩ ∧ Ents w bq off l) (h40 : l.length ≤ 40) (hno : longs l = false) (hq : ShIn w qq sh) (hcap : sh.length ≤ cap2) (h30 : sh.length ≤ 30) (hqz : ∀ x ∈ sh, SzL x) (hql : longsL sh = false) (hg1 : ∀ j, j < sh.length → sheetE sh j = 0) (hg2 : ∀ j, j < sh.length → noneS (bkTo l l.length) sh j = 0) :
  Calls Tryz.prog 3 #[.slice pp l.length cap, .slice qq sh.length cap2] w fun r w' => r = .returned (.bool true) ∧ Below w.heap.size w w' := by
 have HCo : Hid (Calls Tryz.prog 6 _ _ _) := counted_any K w hs
 have HLg : Hid (∀ W, Below w.heap.size w W → Calls Tryz.prog 7 #[.slice pp l.length cap, .int .i64 40] W _) := longs_zero hz hr h40 hno
 have HLs : Hid (∀ W, Below w.heap.size w W → Calls Tryz.prog 8 #[.slice qq sh.length cap2] W fun r w' => r = .returned (.int .i64 0) ∧ w' = W) := fun W hb => by
  have := lsheet_any qq sh cap2 W (hq.on hb) h30 hqz
  rw [show longN sh = 0 by unfold longN; rw [hql]; rfl] at this
  exact this
 have HOf : Hid (∀ W, Below w.heap.size w W → Calls Tryz.prog 9 #[.slice pp l.length cap] W fun e w' => ∃ x q, e = .returned (.tuple #[.pointer (some ⟨x.p, 0, none⟩), .pointer (some ⟨q, 0, none⟩), .bool true]) ∧ IsBk w' w.heap.size x (bkTo l l.length) ∧ Below w.heap.size w w') := fun W hb =>
  (bookOf_any pp l cap W s (hs.below hb) (hh.below hb) hz (ents_on hr hb) (by omega)).mono fun r w' ⟨x, Bq, q, h1, h2⟩ => ⟨x, q, h1, h2.prog.mono hb.size, hb.trans (h2.below.mono hb.size)⟩
 have HDf : Hid (∀ W x b, (∀ j, j < sh.length → noneS b sh j = 0) → IsBk W w.heap.size x b → Below w.heap.size w W → Calls Tryz.prog 10 #[.pointer (some ⟨x.p, 0, none⟩), .slice qq sh.length cap2] W fun e w' => (∃ p c, e = .returned (.tuple #[.slice p (diffL b.2.2 sh).length c, .nilIface]) ∧ (diffL b.2.2 sh = [] ∨ ∃ bq off, p = some ⟨bq, off, none⟩ ∧ W.heap.size ≤ bq ∧ Ents w' bq off (diffL b.2.2 sh))) ∧ Below W.heap.size W w') := fun W x b hn hI hb => C.diffF (hs.below hb) hI (hq.on hb) hcap h30 hqz hg1 hn
 have hok := bkTo_ok l l.length
 generalize bkTo l l.length = b at *
 have HDo : Hid (∀ W x b e, IsBk W w.heap.size x b → Below w.heap.size w W → SzE e → Calls Tryz.prog 11 #[.pointer (some ⟨x.p, 0, none⟩), agE e] W fun r w' => r = .returned (errP s (doB b e).2) ∧ IsBk w' w.heap.size x (doB b e).1 ∧ Off x.all W w') := fun W x b e hI hb hz => bdo_any W s w.heap.size x b e hI hz (hs.below hb).bs
 have HSt : Hid (∀ W x b, IsBk W w.heap.size x b → Calls Tryz.prog 12 #[.pointer (some ⟨x.p, 0, none⟩)] W fun e w' => ∃ p' b', e = .returned (.pointer (some ⟨p', 0, none⟩)) ∧ IsStock w' p' b' b.2.2 ∧ Below W.heap.size W w') := fun W x b hI => (bstock_any W w.heap.size x b hI).mono fun e w' ⟨p', b', h1, h2⟩ => ⟨p', b', h1, h2.st, h2.below⟩
 have HSL : Hid (∀ W k x, Below w.heap.size w W → sh[k]? = some x → ∃ bq off, qq = some ⟨bq, off, none⟩ ∧ LineAt W bq (off + k * 5) x) := fun W k x hb hx => hq.line hb hx
 have HKy : Hid (∀ (k : Nat) (x : Ln), sh[k]? = some x → KeyOk (x.1, x.2.1)) := fun k x hx => keyOk_of (place_sheet (own_line (hg1 k (List.getElem?_eq_some_iff.1 hx).1) hx)) (hqz x (List.mem_of_getElem? hx)).1 (hqz x (List.mem_of_getElem? hx)).2
 have HSe : Hid (∀ e ∈ diffL b.2.2 sh, SzE e) := szE_diff hqz
 have HTw : Hid (SeqOk b (diffL b.2.2 sh) → diffL (seqB b (diffL b.2.2 sh)).2.2 sh = [] ∧ (∀ i, i < sh.length → noneS (seqB b (diffL b.2.2 sh)) sh i = 0) ∧ ∀ x ∈ sh, atL (seqB b (diffL b.2.2 sh)).2.2 (x.1, x.2.1) = x.2.2) := fun h => diff_twice hok hg1 hg2 h
 have HG2 : Hid (∀ j, j < sh.length → noneS b sh j = 0) := hg2
 have hle := diffL_len b.2.2 sh
 have HDf0 : Hid (∀ W x, IsBk W w.heap.size x b → Below w.heap.size w W → Calls Tryz.prog 10 #[.pointer (some ⟨x.p, 0, none⟩), .slice qq sh.length cap2] W _) := fun W x hI hb => HDf.out W x b hg2 hI hb
 obtain ⟨es, hes⟩ : ∃ es, diffL b.2.2 sh = es := ⟨_, rfl⟩
 rw [hes] at HSe HTw hle HDf0
 obtain ⟨le2, hle2⟩ : ∃ le2, es.length = le2 := ⟨_, rfl⟩
 have HLe : Hid (es.length = le2) := hle2
 rw [hle2] at hle HDf0
 obtain ⟨ln, hln⟩ : ∃ ln, sh.length = ln := ⟨_, rfl⟩
 have HN : Hid (sh.length = ln) := hln
 rw [hln] at HLs HDf HDf0 HTw h30 hle ⊢
 generalize l.length = le at *
 have hle60 : le2 ≤ 30 := by omega
 clear K C hs hh hz hr hno hq hqz hql hcap hln hok hg1 hg2 hes hle2
 go_enter Tryz.func3, Tryz.ntmps3
 go_wp2_with (first
  | (go_at_call 6; refine HCo.out.mono ?_; rintro r w1 ⟨rfl, hb1⟩; have HB1 : Hid (Below w.heap.size w w1) := hb1; clear hb1)
  | (go_at_call 7; refine (HLg.out _ HB1.out).mono ?_; rintro r w2 ⟨rfl, hb2⟩; have HB2 : Hid (Below w.heap.size w w2) := HB1.out.trans (hb2.mono HB1.out.size); clear hb2)
  | (go_at_call 8; refine (HLs.out _ HB2.out).mono ?_; rintro r w3 ⟨rfl, hw3⟩; have hw3' := hw3.symm; subst hw3')
  | (go_at_call 9; refine (HOf.out _ HB2.out).mono ?_; rintro r w4 ⟨x, q, rfl, hI4, hb4⟩; have HI4 : Hid (IsBk w4 w.heap.size x b) := hI4; have HB4 : Hid (Below w.heap.size w w4) := hb4; have HDf4 : Hid (Calls Tryz.prog 10 _ w4 _) := HDf0.out w4 x hI4 hb4; clear hI4 hb4)
  | (go_at_call 10; refine HDf4.out.mono ?_; rintro r w5 ⟨⟨p, c, rfl, hE5⟩, hb5⟩; have HI5 : Hid (IsBk w5 w.heap.size x b) := HI4.out.below hb5; have HB5 : Hid (Below w.heap.size w w5) := HB4.out.trans (hb5.mono HB4.out.size); have HE5 : Hid (es = [] ∨ ∃ bq off, p = some ⟨bq, off, none⟩ ∧ bq ∉ x.all ∧ Ents w5 bq off es) := hE5.imp id (fun ⟨bq, off, h1, h2, h3⟩ => ⟨bq, off, h1, fun h9 => by have := (HI4.out.low bq h9).2; omega, h3⟩); clear hb5 hE5))
 go_loopw [11] (fun vi wr => ∃ k : Nat, k ≤ le2 ∧ vi = .int .i64 k ∧ IsBk wr w.heap.size x (seqB b (es.take k)) ∧ (es = [] ∨ ∃ bq off, p = some ⟨bq, off, none⟩ ∧ bq ∉ x.all ∧ Ents wr bq off es) ∧ Below w.heap.size w wr ∧ ∀ j e, j < k → es[j]? = some e → (doB (seqB b (es.take j)) e).2 = 0) (fun vi _ => le2 - (RowKit.intOf vi).toNat)
 case atStart => exact ⟨0, Nat.zero_le _, rfl, HI5.out, HE5.out, HB5.out, fun j e hj => absurd hj (Nat.not_lt_zero _)⟩
 case round =>
  obtain ⟨k, hk, rfl, hI, hE, hB, hso⟩ := hrel
  have HI : Hid (IsBk wr w.heap.size x (seqB b (es.take k))) := hI
  have HB : Hid (Below w.heap.size w wr) := hB
  have HSo : Hid (∀ j e, j < k → es[j]? = some e → (doB (seqB b (es.take j)) e).2 = 0) := hso
  clear hso
  by_cases hlt : k < le2
  ·obtain ⟨e, he⟩ : ∃ e, es[k]? = some e := ⟨_, List.getElem?_eq_getElem (by rw [HLe.out]; exact hlt)⟩
   rcases hE with hnil | ⟨bq, off, rfl, hnx, hE⟩
   ·exact absurd he (by rw [hnil]; simp)
   have HEn : Hid (Ents wr bq off es) := hE
   have HNx : Hid (bq ∉ x.all) := hnx
   have HSq := seqB_succ (b := b) he
   have HX : Hid (es[k]? = some e) := he
   obtain ⟨c0, c1, c2, c3, c4, c5, c6, c7, c8, c9, c10, c11, c12, c13⟩ := hE.at_ k e he
   have HD : Hid (Calls Tryz.prog 11 #[.pointer (some ⟨x.p, 0, none⟩), agE e] wr fun r w' => r = .returned (errP s (doB (seqB b (es.take k)) e).2) ∧ IsBk w' w.heap.size x (seqB b (es.take (k + 1))) ∧ Off x.all wr w') := by
    rw [HSq]
    exact HDo.out wr x _ e hI hB (HSe.out e (List.mem_of_getElem? he))
   have hlo := hI.low
   have HLo : Hid (∀ k ∈ x.all, w.heap.size ≤ k) := fun k hk => (hlo k hk).1
   clear hI hB hE hnx he HSq hlo
   obtain ⟨ak, ⟨agc, agp⟩, ⟨ali, alc, alu, alk⟩, ⟨afz, afr, afb⟩, ⟨atz, atr, atb⟩, an⟩ := e
   unfold agE at HD
   simp only at c0 c1 c2 c3 c4 c5 c6 c7 c8 c9 c10 c11 c12 c13 HD
   by_cases hC : (doB (seqB b (es.take k)) (ak, (agc, agp), (ali, alc, alu, alk), (afz, afr, afb), (atz, atr, atb), an)).2 = 0
   ·rw [hC] at HD
    simp only [errP_zero] at HD
    have HC : Hid ((doB (seqB b (es.take k)) (ak, (agc, agp), (ali, alc, alu, alk), (afz, afr, afb), (atz, atr, atb), an)).2 = 0) := hC
    clear hC
    go_wp2_with (go_at_call 11; refine HD.out.mono ?_; rintro r w6 ⟨rfl, hI6, ho6⟩; have HI6 : Hid (IsBk w6 w.heap.size x (seqB b (es.take (k + 1)))) := hI6; have HB6 : Hid (Below w.heap.size w w6) := HB.out.trans (ho6.below HB.out.size HLo.out); have HE6 : Hid (Ents w6 bq off es) := ⟨Nat.lt_of_lt_of_le HEn.out.lt ho6.size, fun i e9 h9 => (HEn.out.at_ i e9 h9).of_block (ho6.block bq HEn.out.lt HNx.out)⟩; clear hI6 ho6)
    go_roundw
    case rel => exact ⟨k + 1, by omega, by go_num, HI6.out, Or.inr ⟨bq, off, rfl, HNx.out, HE6.out⟩, HB6.out, fun j e9 hj h9 => by
     rcases Nat.lt_or_ge j k with h | h
     ·exact HSo.out j e9 h h9
     ·obtain rfl : j = k := by omega
      have h8 := HX.out
      rw [h9] at h8
      cases h8
      exact HC.out⟩
    case measure => simp [RowKit.intOf]; omega
   ·simp only [errP_pos s hC] at HD
    generalize s ((doB (seqB b (es.take k)) (ak, (agc, agp), (ali, alc, alu, alk), (afz, afr, afb), (atz, atr, atb), an)).2 - 1) = ad at *
    clear hC
    go_wp2_with (go_at_call 11; refine HD.out.mono ?_; rintro r w6 ⟨rfl, hI6, ho6⟩; have HB6 : Hid (Below w.heap.size w w6) := HB.out.trans (ho6.below HB.out.size HLo.out); clear hI6 ho6)
    go_ret
    exact ⟨rfl, HB6.out⟩
  ·have hkn : le2 = k := by omega
   subst hkn
   have htk : es.take le2 = es := List.take_of_length_le (by rw [HLe.out]; exact Nat.le_refl _)
   have hsq : SeqOk b es := fun i e he => HSo.out i e (by have := (List.getElem?_eq_some_iff.1 he).1; rw [HLe.out] at this; exact this) he
   obtain ⟨d1, d2, d3⟩ := HTw.out hsq
   rw [htk] at hI
   have HD2 := HDf.out wr x _ d2 hI hB
   rw [d1] at HD2
   simp only [List.length_nil] at HD2
   have HD2 : Hid (Calls Tryz.prog 10 _ wr _) := HD2
   have HI2 : Hid (IsBk wr w.heap.size x (seqB b es)) := hI
   have HAtq : Hid (∀ x ∈ sh, atL (seqB b es).2.2 (x.1, x.2.1) = x.2.2) := d3
   clear hE hsq d1 d2 d3 hI hB htk
   go_wp2_with (first
    | (go_at_call 10; refine HD2.out.mono ?_; rintro r w7 ⟨⟨p7, c7, rfl, _⟩, hb7⟩; have HI7 : Hid (IsBk w7 w.heap.size x (seqB b es)) := HI2.out.below hb7; have HB7 : Hid (Below w.heap.size w w7) := HB.out.trans (hb7.mono HB.out.size); clear hb7)
    | (go_at_call 12; refine (HSt.out _ _ _ HI7.out).mono ?_; rintro r w8 ⟨p8, b8, rfl, hs8, hb8⟩; have HS8 : Hid (IsStock w8 p8 b8 (seqB b es).2.2) := hs8; have HB8 : Hid (Below w.heap.size w w8) := HB7.out.trans (hb8.mono HB7.out.size); clear hs8 hb8))
   go_loopw [14] (fun vi wr => ∃ k : Nat, k ≤ ln ∧ vi = .int .i64 k ∧ IsStock wr p8 b8 (seqB b es).2.2 ∧ Below w.heap.size w wr) (fun vi _ => ln - (RowKit.intOf vi).toNat)
   case atStart => exact ⟨0, Nat.zero_le _, rfl, HS8.out, HB8.out⟩
   case round =>
    obtain ⟨w0, hw0⟩ : ∃ w0, w0 = wr := ⟨_, rfl⟩
    subst hw0
    obtain ⟨k, hk, rfl, hS, hB⟩ := hrel
    have HS : Hid (IsStock w0 p8 b8 (seqB b es).2.2) := hS
    have HBw : Hid (Below w.heap.size w w0) := hB
    by_cases hlt : k < ln
    ·obtain ⟨y, hy⟩ : ∃ y, sh[k]? = some y := ⟨_, List.getElem?_eq_getElem (by rw [HN.out]; exact hlt)⟩
     obtain ⟨bq, off, rfl, c0, c1, c2, c3, c4⟩ := HSL.out w0 k y hB hy
     have hat := HAtq.out y (List.mem_of_getElem? hy)
     have hky := HKy.out k y hy
     have HAx : ∀ W, Below w0.heap.size w0 W → Calls Tryz.prog 13 #[.pointer (some ⟨p8, 0, none⟩), agP y.1, .string y.2.1] W fun e w' => e = .returned (.int .i64 y.2.2) ∧ Below W.heap.size W w' := fun W hb => by
      have := at_any y.1 y.2.1 W p8 b8 (seqB b es).2.2 (HS.out.all hb) hky
      rw [hat] at this
      exact this
     obtain ⟨⟨yz, yr, yb⟩, yl, yn⟩ := y
     unfold agP at HAx
     simp only at c0 c1 c2 c3 c4 HAx
     clear hy hat hky hS hB
     go_wp2
     have hbR : ∀ d os, Below w0.heap.size w0 (grow (redrawn w0 d) os) := fun d os => below_regrown w0 d os
     have g0 := cell_regrown c0
     have g1 := cell_regrown c1
     have g2 := cell_regrown c2
     have g3 := cell_regrown c3
     have g4 := cell_regrown c4
     have cA := fun d os => Calls.regrown_of (w := w0) (HAx _ (hbR d os))
     clear HAx c0 c1 c2 c3 c4
     refine wp_region_quiet_below (by kernel_rfl) (by kernel_rfl) ?_
     repeat (quiet_step (first | (go_at_call 13; exact cA _ _)))
     refine wpQuiet_nil ?_
     intro _ hw'
     obtain ⟨⟨dq, osq⟩, hw''⟩ := hw'
     subst hw''
     have HBE : Hid (Below w0.heap.size w0 (grow (redrawn w0 dq) osq)) := hbR dq osq
     clear hbR g0 g1 g2 g3 g4 cA
     generalize grow (redrawn w0 dq) osq = W at *
     go_wp2
     go_roundw
     case rel => exact ⟨k + 1, by omega, by go_num, HS.out.all HBE.out, HBw.out.trans (HBE.out.mono HBw.out.size)⟩
     case measure => simp [RowKit.intOf]; omega
    ·clear hS hB
     go_wp2
     go_ret
     exact ⟨rfl, HBw.out⟩
theorem countTwice_long {s : Nat → Addr} (K : CountK s) (v v2 : Value) (w : World) (hs : Sent w s) (hL : ∀ W, Below w.heap.size w W → Calls Tryz.prog 7 #[v, .int .i64 40] W fun r w' => r = .returned (.int .i64 1) ∧ Below W.heap.size W w') :
  Calls Tryz.prog 3 #[v, v2] w fun r w' => r = .returned (.bool true) ∧ Below w.heap.size w w' := by
 have HCo : Hid (Calls Tryz.prog 6 _ _ _) := counted_any K w hs
 have HL : Hid (∀ W, Below w.heap.size w W → Calls Tryz.prog 7 #[v, .int .i64 40] W _) := hL
 clear K hs hL
 go_enter Tryz.func3, Tryz.ntmps3
 go_wp2_with (first
  | (go_at_call 6; refine HCo.out.mono ?_; rintro r w1 ⟨rfl, hb1⟩; have HB1 : Hid (Below w.heap.size w w1) := hb1; clear hb1)
  | (go_at_call 7; refine (HL.out _ HB1.out).mono ?_; rintro r w2 ⟨rfl, hb2⟩; have HB2 : Hid (Below w.heap.size w w2) := HB1.out.trans (hb2.mono HB1.out.size); clear hb2))
 go_ret
 exact ⟨rfl, HB2.out⟩
theorem countTwice_wide {s : Nat → Addr} (K : CountK s) (v v2 : Value) (w : World) (hs : Sent w s) (hL : ∀ W, Below w.heap.size w W → Calls Tryz.prog 7 #[v, .int .i64 40] W fun r w' => r = .returned (.int .i64 0) ∧ Below W.heap.size W w') (hS : ∀ W, Below w.heap.size w W → Calls Tryz.prog 8 #[v2] W fun r w' => r = .returned (.int .i64 1) ∧ w' = W) :
  Calls Tryz.prog 3 #[v, v2] w fun r w' => r = .returned (.bool true) ∧ Below w.heap.size w w' := by
 have HCo : Hid (Calls Tryz.prog 6 _ _ _) := counted_any K w hs
 have HL : Hid (∀ W, Below w.heap.size w W → Calls Tryz.prog 7 #[v, .int .i64 40] W _) := hL
 have HS : Hid (∀ W, Below w.heap.size w W → Calls Tryz.prog 8 #[v2] W _) := hS
 clear K hs hL hS
 go_enter Tryz.func3, Tryz.ntmps3
 go_wp2_with (first
  | (go_at_call 6; refine HCo.out.mono ?_; rintro r w1 ⟨rfl, hb1⟩; have HB1 : Hid (Below w.heap.size w w1) := hb1; clear hb1)
  | (go_at_call 7; refine (HL.out _ HB1.out).mono ?_; rintro r w2 ⟨rfl, hb2⟩; have HB2 : Hid (Below w.heap.size w w2) := HB1.out.trans (hb2.mono HB1.out.size); clear hb2)
  | (go_at_call 8; refine (HS.out _ HB2.out).mono ?_; rintro r w3 ⟨rfl, hw3⟩; have hw3' := hw3.symm; subst hw3'))
 go_ret
 exact ⟨rfl, HB2.out⟩
theorem countTwice_any {s : Nat → Addr} (K : CountK s) (C : CountD s) (v v2 : Value) (w : World) (hs : Sent w s) (hh : Handle w) (ho : (∃ ad c, v = .slice ad 0 c) ∨ ∃ b off c l, 1 ≤ l.length ∧ l.length ≤ maxLen ∧ v = .slice (some ⟨b, off, none⟩) l.length c ∧ Ents w b off l ∧ ∀ e ∈ l, SzE e) (ho2 : (∃ ad c, v2 = .slice ad 0 c) ∨ ∃ b off c l, 1 ≤ l.length ∧ l.length ≤ maxLen ∧ l.length ≤ c ∧ v2 = .slice (some ⟨b, off, none⟩) l.length c ∧ Lns w b off l ∧ ∀ e ∈ l, SzL e) :
  Calls Tryz.prog 3 #[v, v2] w fun r w' => r = .returned (.bool true) ∧ Below w.heap.size w w' := by
 have shk : ∀ P : Prop, (∀ (qq : Option Addr) (sh : List Ln) (cap2 : Nat), v2 = .slice qq sh.length cap2 → ShIn w qq sh → sh.length ≤ cap2 → sh.length ≤ 30 → (∀ x ∈ sh, SzL x) → longsL sh = false → P) → ((∀ W, Below w.heap.size w W → Calls Tryz.prog 8 #[v2] W fun r w' => r = .returned (.int .i64 1) ∧ w' = W) → P) → P := fun P p1 p2 => by
  rcases ho2 with ⟨ad, c, rfl⟩ | ⟨b, off, c, l, h1, hm, hc, rfl, hE, hz⟩
  ·exact p1 ad [] c rfl (Or.inl rfl) (Nat.zero_le _) (by decide) (by simp) rfl
  ·by_cases h30 : l.length ≤ 30
   ·cases hl : longsL l with
    | false => exact p1 _ l c rfl (Or.inr ⟨b, off, rfl, hE⟩) hc h30 hz hl
    | true =>
     refine p2 fun W hb => ?_
     have := lsheet_any (some ⟨b, off, none⟩) l c W (Or.inr ⟨b, off, rfl, hE.below hE.lt hb⟩) h30 hz
     rw [show longN l = 1 by unfold longN; rw [hl]; rfl] at this
     exact this
   ·exact p2 fun W hb => lsheet_many _ l.length c W (by omega)
 have key : ∀ (pp : Option Addr) (l : List En) (cap : Nat), (∀ e ∈ l, SzE e) → (l = [] ∨ ∃ bq off, pp = some ⟨bq, off, none⟩ ∧ Ents w bq off l) → l.length ≤ 40 → longs l = false → Calls Tryz.prog 3 #[.slice pp l.length cap, v2] w fun r w' => r = .returned (.bool true) ∧ Below w.heap.size w w' := fun pp l cap hz hr h40 hno => shk _ (fun qq sh cap2 e hq hcap h30 hqz hql => by
   rw [e]
   by_cases hg : (∀ j, j < sh.length → sheetE sh j = 0) ∧ ∀ j, j < sh.length → noneS (bkTo l l.length) sh j = 0
   ·exact countTwice_fine K C pp l cap qq sh cap2 w hs hh hz hr h40 hno hq hcap h30 hqz hql hg.1 hg.2
   ·exact countTwice_bad K C pp l cap qq sh cap2 w hs hh hz hr h40 hno hq hcap h30 hqz hql hg) (fun hS => countTwice_wide K _ v2 w hs (longs_zero hz hr h40 hno) hS)
 rcases ho with ⟨ad, c, rfl⟩ | ⟨b, off, c, l, h1, hm, rfl, hE, hz⟩
 ·exact key ad [] c (by simp) (Or.inl rfl) (by decide) rfl
 ·by_cases h40 : l.length ≤ 40
  ·cases hl : longs l with
   | false => exact key _ l c hz (Or.inr ⟨b, off, rfl, hE⟩) h40 hl
   | true =>
    refine countTwice_long K _ v2 w hs fun W hb => ?_
    have := longs_some l b off c 40 W (hE.below hE.lt hb) hz (by omega) (by decide)
    rw [hl] at this
    exact this
  ·refine countTwice_long K _ v2 w hs fun W hb => ?_
   refine (longs_many (some ⟨b, off, none⟩) l.length c 40 W (by omega)).mono ?_
   rintro r w' ⟨rfl, rfl⟩
   exact ⟨rfl, Below.refl _ _⟩
end Go.Proofs.YtppodkkefegbkaaGreatDoor
