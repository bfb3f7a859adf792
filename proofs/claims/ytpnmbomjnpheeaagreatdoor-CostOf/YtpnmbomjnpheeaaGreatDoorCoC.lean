/-
 The law CostOf answers true of at most forty entries, none too long, and a code that is not too long, in every memory in which the errors and strconv's table are laid; nothing old is turned.
-/
import Derived.Test.YtpnmbomjnpheeaaGreatDoorCoN
import Derived.Test.YtpnmbomjnpheeaaGreatDoorJz32
import Derived.Test.YtpnmbomjnpheeaaGreatDoorJz34
import Derived.Test.YtpnmbomjnpheeaaGreatDoorJz24
set_option maxRecDepth 100000
set_option maxHeartbeats 16000000
namespace Go.Proofs.YtpnmbomjnpheeaaGreatDoor
open Go.RowKit Go.Lib Go.Sort
theorem ents_on {pp : Option Addr} {l : List En} {w W : World} (hr : l = [] ∨ ∃ bq off, pp = some ⟨bq, off, none⟩ ∧ Ents w bq off l) (hb : Below w.heap.size w W) : l = [] ∨ ∃ bq off, pp = some ⟨bq, off, none⟩ ∧ Ents W bq off l :=
 hr.imp id fun ⟨bq, off, h1, h2⟩ => ⟨bq, off, h1, h2.below h2.lt hb⟩
theorem longs_zero {pp : Option Addr} {l : List En} {cap : Nat} {w : World} (hz : ∀ e ∈ l, SzE e) (hr : l = [] ∨ ∃ bq off, pp = some ⟨bq, off, none⟩ ∧ Ents w bq off l) (h40 : l.length ≤ 40) (hno : longs l = false) (W : World) (hb : Below w.heap.size w W) : Calls Tryz.prog 5 #[.slice pp l.length cap, .int .i64 40] W fun r w' => r = .returned (.int .i64 0) ∧ Below W.heap.size W w' := by
 rcases hr with rfl | ⟨bq, off, rfl, hE⟩
 ·refine (longs_none pp cap 40 W (by decide)).mono ?_
  rintro r w' ⟨rfl, rfl⟩
  exact ⟨rfl, Below.refl _ _⟩
 ·have := longs_some l bq off cap 40 W (hE.below hE.lt hb) hz (by omega) (by decide)
  rw [hno] at this
  exact this
theorem costOf_err (pp : Option Addr) (l : List En) (cap : Nat) (code : ByteArray) (w : World) (s : Nat → Addr) (hs : Sent w s) (hh : Handle w) (hp : Pow w) (hz : ∀ e ∈ l, SzE e) (hr : l = [] ∨ ∃ bq off, pp = some ⟨bq, off, none⟩ ∧ Ents w bq off l) (h40 : l.length ≤ 40) (hno : longs l = false) (hcz : code.size ≤ 30) {k : Nat} (hk : k < l.length) (hbe : ∀ j, j < k → erK l code j = 0) (hne : erK l code k ≠ 0) :
  Calls Tryz.prog 3 #[.slice pp l.length cap, .string code] w fun r w' => r = .returned (.bool true) ∧ Below w.heap.size w w' := by
 have HCh : Hid (Calls Tryz.prog 4 _ _ _) := cheap_any w s hs.cs hp
 have HLg : Hid (∀ W, Below w.heap.size w W → Calls Tryz.prog 5 #[.slice pp l.length cap, .int .i64 40] W _) := longs_zero hz hr h40 hno
 have HOf : Hid (∀ W, Below w.heap.size w W → Calls Tryz.prog 6 #[.slice pp l.length cap, .string code] W fun r w' => ∃ f, r = .returned (.tuple #[nilP, .int .i64 0, .iface 54 (.pointer (some ⟨f, 0, none⟩))]) ∧ w'.cell? ⟨f, 0, none⟩ = some (.int .i64 k) ∧ w'.cell? ⟨f, 1, none⟩ = some (err (s (erK l code k - 1))) ∧ Below W.heap.size W w') := fun W hb => (cof_any pp l cap code W s (hs.below hb).bs (hs.below hb).cs hz (ents_on hr hb) (by omega) hcz).mono fun r w' ⟨h1, h2⟩ => by
  rcases h1 with ⟨h3, _⟩ | ⟨h3, _⟩ | ⟨k', hk', hb', hne', f, h4, h5, h6⟩
  ·exact absurd (h3 k hk) hne
  ·exact absurd (h3 k hk) hne
  ·obtain rfl : k = k' := by
    rcases Nat.lt_trichotomy k k' with h | h | h
    ·exact absurd (hb' k h) hne
    ·exact h
    ·exact absurd (hbe k' h) hne'
   exact ⟨f, h4, h5, h6, h2⟩
 have HRf : Hid (∀ W, Below w.heap.size w W → Calls Tryz.prog 7 #[.slice pp l.length cap, .string code] W fun r w' => r = .returned (.tuple #[nilP, .int .i64 0, .agg #[.int .i64 (erK l code k), .int .i64 k]]) ∧ Below W.heap.size W w') := fun W hb => (rof_any pp l cap code W hz (ents_on hr hb) (by omega)).mono fun r w' ⟨h1, h2⟩ => by
  rcases h1 with ⟨h3, _⟩ | ⟨h3, _⟩ | ⟨k', hk', hb', hne', h4⟩
  ·exact absurd (h3 k hk) hne
  ·exact absurd (h3 k hk) hne
  ·obtain rfl : k = k' := by
    rcases Nat.lt_trichotomy k k' with h | h | h
    ·exact absurd (hb' k h) hne
    ·exact h
    ·exact absurd (hbe k' h) hne'
   exact ⟨h4, h2⟩
 have he12 := erK_le l code k
 have HO : Hid (∀ W, Below w.heap.size w W → Sent W s ∧ Handle W) := fun W hb => ⟨hs.below hb, hh.below hb⟩
 generalize erK l code k = ek at *
 have HFa : Hid (∀ W f, Below w.heap.size w W → W.cell? ⟨f, 0, none⟩ = some (.int .i64 k) → W.cell? ⟨f, 1, none⟩ = some (err (s (ek - 1))) → Calls Tryz.prog 8 #[.iface 54 (.pointer (some ⟨f, 0, none⟩)), .agg #[.int .i64 ek, .int .i64 k]] W fun e w' => e = .returned (.bool true) ∧ Below W.heap.size W w') := fun W f h h0 h1 =>
  faulted2_of _ ek k W (by omega) fun w1 hb1 => by
   obtain ⟨o1, o2⟩ := HO.out W h
   have h9 := code_fault_sent f 0 k (ek - 1) (by omega) w1 s (o1.below hb1) (o2.below hb1) ((hb1.cell (p := ⟨f, 0, none⟩) (cell_lt h0)).trans h0) ((hb1.cell (p := ⟨f, 1, none⟩) (cell_lt h1)).trans h1)
   rw [show ek - 1 + 1 = ek by omega] at h9
   exact h9
 have z1 : (0 : Int) < (ek : Int) := by omega
 have z2 : (code.size : Int) ≤ 30 := by omega
 clear hs hh hp hz hr hno hk hbe hne he12
 generalize l.length = ln at *
 go_enter Tryz.func3, Tryz.ntmps3
 go_wp2_with (first
  | (go_at_call 4; refine HCh.out.mono ?_; rintro r w1 ⟨rfl, hb1⟩; have HB1 : Hid (Below w.heap.size w w1) := hb1; clear hb1)
  | (go_at_call 5; refine (HLg.out _ HB1.out).mono ?_; rintro r w2 ⟨rfl, hb2⟩; have HB2 : Hid (Below w.heap.size w w2) := HB1.out.trans (hb2.mono HB1.out.size); clear hb2)
  | (go_at_call 6; refine (HOf.out _ HB2.out).mono ?_; rintro r w3 ⟨f, rfl, hf0, hf1, hb3⟩; have HB3 : Hid (Below w.heap.size w w3) := HB2.out.trans (hb3.mono HB2.out.size); have F0 : Hid (w3.cell? ⟨f, 0, none⟩ = _) := hf0; have F1 : Hid (w3.cell? ⟨f, 1, none⟩ = _) := hf1; clear hf0 hf1 hb3)
  | (go_at_call 7; refine (HRf.out _ HB3.out).mono ?_; rintro r w4 ⟨rfl, hb4⟩; have n4 := heap_alloc_new w4 (.cells #[.int .i64 ek, .int .i64 k] 32); have hb4' : Below w3.heap.size w3 (w4.alloc (.cells #[.int .i64 ek, .int .i64 k] 32)) := hb4.alloc hb4.size _; obtain ⟨W4, hW4⟩ : ∃ W4, w4.alloc (.cells #[.int .i64 ek, .int .i64 k] 32) = W4 := ⟨_, rfl⟩; rw [hW4] at n4 hb4'; have HB4 : Hid (Below w.heap.size w W4) := HB3.out.trans (hb4'.mono HB3.out.size); have HFb : Hid (Calls Tryz.prog 8 _ W4 _) := HFa.out W4 f HB4.out ((hb4'.cell (p := ⟨f, 0, none⟩) (cell_lt F0.out)).trans F0.out) ((hb4'.cell (p := ⟨f, 1, none⟩) (cell_lt F1.out)).trans F1.out); have t0 : W4.cell? ⟨w4.heap.size, 0, none⟩ = some (.int .i64 ek) := (by rw [cell_of_heap n4]; rfl); have t1 : W4.cell? ⟨w4.heap.size, 1, none⟩ = some (.int .i64 k) := (by rw [cell_of_heap n4]; rfl); clear n4 hb4 hb4')
  | (go_at_call 8; refine HFb.out.mono ?_; rintro r w5 ⟨rfl, hb5⟩; have HB5 : Hid (Below w.heap.size w w5) := HB4.out.trans (hb5.mono HB4.out.size); clear hb5))
 go_ret
 exact ⟨rfl, HB5.out⟩
theorem costOf_none (pp : Option Addr) (l : List En) (cap : Nat) (code : ByteArray) (w : World) (s : Nat → Addr) (hs : Sent w s) (hh : Handle w) (hp : Pow w) (hz : ∀ e ∈ l, SzE e) (hr : l = [] ∨ ∃ bq off, pp = some ⟨bq, off, none⟩ ∧ Ents w bq off l) (h40 : l.length ≤ 40) (hno : longs l = false) (hcz : code.size ≤ 30) (hE : ∀ j, j < l.length → erK l code j = 0) (hG : isGoods (bkTo l l.length) code = false) :
  Calls Tryz.prog 3 #[.slice pp l.length cap, .string code] w fun r w' => r = .returned (.bool true) ∧ Below w.heap.size w w' := by
 have HCh : Hid (Calls Tryz.prog 4 _ _ _) := cheap_any w s hs.cs hp
 have HLg : Hid (∀ W, Below w.heap.size w W → Calls Tryz.prog 5 #[.slice pp l.length cap, .int .i64 40] W _) := longs_zero hz hr h40 hno
 obtain ⟨ad, had⟩ : ∃ ad, s 5 = ad := ⟨_, rfl⟩
 have HOf : Hid (∀ W, Below w.heap.size w W → Calls Tryz.prog 6 #[.slice pp l.length cap, .string code] W fun r w' => r = .returned (.tuple #[nilP, .int .i64 0, err ad]) ∧ Below W.heap.size W w') := fun W hb => (cof_any pp l cap code W s (hs.below hb).bs (hs.below hb).cs hz (ents_on hr hb) (by omega) hcz).mono fun r w' ⟨h1, h2⟩ => by
  rcases h1 with ⟨_, h3, _⟩ | ⟨_, _, h4⟩ | ⟨k', hk', _, hne', _⟩
  ·rw [hG] at h3; cases h3
  ·exact ⟨had ▸ h4, h2⟩
  ·exact absurd (hE k' hk') hne'
 have HRf : Hid (∀ W, Below w.heap.size w W → Calls Tryz.prog 7 #[.slice pp l.length cap, .string code] W fun r w' => r = .returned (.tuple #[nilP, .int .i64 0, .agg #[.int .i64 6, .int .i64 (-1)]]) ∧ Below W.heap.size W w') := fun W hb => (rof_any pp l cap code W hz (ents_on hr hb) (by omega)).mono fun r w' ⟨h1, h2⟩ => by
  rcases h1 with ⟨_, h3, _⟩ | ⟨_, _, h4⟩ | ⟨k', hk', _, hne', _⟩
  ·rw [hG] at h3; cases h3
  ·exact ⟨h4, h2⟩
  ·exact absurd (hE k' hk') hne'
 have HFa : Hid (∀ W, Below w.heap.size w W → Calls Tryz.prog 8 #[err ad, .agg #[.int .i64 6, .int .i64 (-1)]] W fun e w' => e = .returned (.bool true) ∧ Below W.heap.size W w') := fun W h =>
  faulted2_of _ 6 (-1) W (by decide) fun w1 hb1 => by
   rw [← had]
   exact code_sent 5 (by decide) w1 s ((hs.below h).below hb1) ((hh.below h).below hb1)
 have z2 : (code.size : Int) ≤ 30 := by omega
 clear hs hh hp hz hr hno hE hG had
 generalize l.length = ln at *
 go_enter Tryz.func3, Tryz.ntmps3
 go_wp2_with (first
  | (go_at_call 4; refine HCh.out.mono ?_; rintro r w1 ⟨rfl, hb1⟩; have HB1 : Hid (Below w.heap.size w w1) := hb1; clear hb1)
  | (go_at_call 5; refine (HLg.out _ HB1.out).mono ?_; rintro r w2 ⟨rfl, hb2⟩; have HB2 : Hid (Below w.heap.size w w2) := HB1.out.trans (hb2.mono HB1.out.size); clear hb2)
  | (go_at_call 6; refine (HOf.out _ HB2.out).mono ?_; rintro r w3 ⟨rfl, hb3⟩; have HB3 : Hid (Below w.heap.size w w3) := HB2.out.trans (hb3.mono HB2.out.size); clear hb3)
  | (go_at_call 7; refine (HRf.out _ HB3.out).mono ?_; rintro r w4 ⟨rfl, hb4⟩; have n4 := heap_alloc_new w4 (.cells #[.int .i64 6, .int .i64 (-1)] 32); have hb4' : Below w3.heap.size w3 (w4.alloc (.cells #[.int .i64 6, .int .i64 (-1)] 32)) := hb4.alloc hb4.size _; obtain ⟨W4, hW4⟩ : ∃ W4, w4.alloc (.cells #[.int .i64 6, .int .i64 (-1)] 32) = W4 := ⟨_, rfl⟩; rw [hW4] at n4 hb4'; have HB4 : Hid (Below w.heap.size w W4) := HB3.out.trans (hb4'.mono HB3.out.size); have HFb : Hid (Calls Tryz.prog 8 _ W4 _) := HFa.out W4 HB4.out; have t0 : W4.cell? ⟨w4.heap.size, 0, none⟩ = some (.int .i64 6) := (by rw [cell_of_heap n4]; rfl); have t1 : W4.cell? ⟨w4.heap.size, 1, none⟩ = some (.int .i64 (-1)) := (by rw [cell_of_heap n4]; rfl); clear n4 hb4 hb4')
  | (go_at_call 8; refine HFb.out.mono ?_; rintro r w5 ⟨rfl, hb5⟩; have HB5 : Hid (Below w.heap.size w w5) := HB4.out.trans (hb5.mono HB4.out.size); clear hb5))
 go_ret
 exact ⟨rfl, HB5.out⟩
theorem costOf_fine (pp : Option Addr) (l : List En) (cap : Nat) (code : ByteArray) (w : World) (s : Nat → Addr) (hs : Sent w s) (hp : Pow w) (hz : ∀ e ∈ l, SzE e) (hr : l = [] ∨ ∃ bq off, pp = some ⟨bq, off, none⟩ ∧ Ents w bq off l) (h40 : l.length ≤ 40) (hno : longs l = false) (hcz : code.size ≤ 30) (hE : ∀ j, j < l.length → erK l code j = 0) (hG : isGoods (bkTo l l.length) code = true) :
  Calls Tryz.prog 3 #[.slice pp l.length cap, .string code] w fun r w' => r = .returned (.bool true) ∧ Below w.heap.size w w' := by
 have HCh : Hid (Calls Tryz.prog 4 _ _ _) := cheap_any w s hs.cs hp
 have HLg : Hid (∀ W, Below w.heap.size w W → Calls Tryz.prog 5 #[.slice pp l.length cap, .int .i64 40] W _) := longs_zero hz hr h40 hno
 obtain ⟨hok, hlen⟩ := lyK_ok l code l.length
 have hlen' : (lyK l code l.length).1.length ≤ 1000 := by omega
 have HOf : Hid (∀ W, Below w.heap.size w W → Calls Tryz.prog 6 #[.slice pp l.length cap, .string code] W fun r w' => ∃ px, r = .returned (.tuple #[ptrK px, .int .i64 (lyK l code l.length).2, .nilIface]) ∧ Ly1 W px w' (lyK l code l.length).1) := fun W hb => (cof_any pp l cap code W s (hs.below hb).bs (hs.below hb).cs hz (ents_on hr hb) (by omega) hcz).mono fun r w' ⟨h1, h2⟩ => by
  rcases h1 with ⟨_, _, h3⟩ | ⟨_, h3, _⟩ | ⟨k', hk', _, hne', _⟩
  ·exact h3
  ·rw [hG] at h3; cases h3
  ·exact absurd (hE k' hk') hne'
 have HRf : Hid (∀ W, Below w.heap.size w W → Calls Tryz.prog 7 #[.slice pp l.length cap, .string code] W fun r w' => r = .returned (.tuple #[ptrK (W.heap.size + 2), .int .i64 (lyK l code l.length).2, .agg #[.int .i64 0, .int .i64 (-1)]]) ∧ RefY w' (W.heap.size + 1) (W.heap.size + 2) (lyK l code l.length).1 ∧ Below W.heap.size W w') := fun W hb => (rof_any pp l cap code W hz (ents_on hr hb) (by omega)).mono fun r w' ⟨h1, h2⟩ => by
  rcases h1 with ⟨_, _, h3, h4⟩ | ⟨_, h3, _⟩ | ⟨k', hk', _, hne', _⟩
  ·exact ⟨h3, h4, h2⟩
  ·rw [hG] at h3; cases h3
  ·exact absurd (hE k' hk') hne'
 have HTx : Hid (∀ W0 W px, Below w.heap.size w W → Ly1 W0 px W (lyK l code l.length).1 → Calls Tryz.prog 9 #[ptrK px] W fun e w' => e = .returned (.string ⟨(textY (lyK l code l.length).1).toArray⟩) ∧ Below W.heap.size W w') := fun W0 W px hb h => h.text_ (hp.below hb) hlen'
 have HTr : Hid (∀ W B q, RefY W B q (lyK l code l.length).1 → Calls Tryz.prog 10 #[ptrK q] W fun e w' => e = .returned (.string ⟨(textY (lyK l code l.length).1).toArray⟩) ∧ Below W.heap.size W w') := fun W B q h => rtext_any W B q _ h hok hlen'
 have z2 : (code.size : Int) ≤ 30 := by omega
 have hse := fun a : ByteArray => same_eq a a
 simp only [decide_true] at hse
 have ht := hse (⟨(textY (lyK l code l.length).1).toArray⟩ : ByteArray)
 clear hs hp hz hr hno hE hG hok hlen hlen' hse
 generalize (⟨(textY (lyK l code l.length).1).toArray⟩ : ByteArray) = tx at *
 generalize (lyK l code l.length).1 = m at *
 generalize (lyK l code l.length).2 = zz at *
 generalize l.length = ln at *
 go_enter Tryz.func3, Tryz.ntmps3
 go_wp2_with (first
  | (go_at_call 4; refine HCh.out.mono ?_; rintro r w1 ⟨rfl, hb1⟩; have HB1 : Hid (Below w.heap.size w w1) := hb1; clear hb1)
  | (go_at_call 5; refine (HLg.out _ HB1.out).mono ?_; rintro r w2 ⟨rfl, hb2⟩; have HB2 : Hid (Below w.heap.size w w2) := HB1.out.trans (hb2.mono HB1.out.size); clear hb2)
  | (go_at_call 6; refine (HOf.out _ HB2.out).mono ?_; rintro r w3 ⟨px, rfl, hy3⟩; have HB3 : Hid (Below w.heap.size w w3) := HB2.out.trans (hy3.below.mono HB2.out.size); have HY3 : Hid (Ly1 w2 px w3 m) := hy3; clear hy3)
  | (go_at_call 7; refine (HRf.out _ HB3.out).mono ?_; rintro r w4 ⟨rfl, hr4, hb4⟩; have n4 := heap_alloc_new w4 (.cells #[.int .i64 0, .int .i64 (-1)] 32); have hb4' : Below w3.heap.size w3 (w4.alloc (.cells #[.int .i64 0, .int .i64 (-1)] 32)) := hb4.alloc hb4.size _; have hr4' := hr4.below ((Below.refl _ w4).alloc (Nat.le_refl _) (.cells #[.int .i64 0, .int .i64 (-1)] 32)); obtain ⟨W4, hW4⟩ : ∃ W4, w4.alloc (.cells #[.int .i64 0, .int .i64 (-1)] 32) = W4 := ⟨_, rfl⟩; rw [hW4] at n4 hb4' hr4'; have HB4 : Hid (Below w.heap.size w W4) := HB3.out.trans (hb4'.mono HB3.out.size); have HY4 : Hid (Ly1 w2 px W4 m) := HY3.out.on hb4'; have HR4 : Hid (RefY W4 (w3.heap.size + 1) (w3.heap.size + 2) m) := hr4'; have t0 : W4.cell? ⟨w4.heap.size, 0, none⟩ = some (.int .i64 0) := (by rw [cell_of_heap n4]; rfl); have t1 : W4.cell? ⟨w4.heap.size, 1, none⟩ = some (.int .i64 (-1)) := (by rw [cell_of_heap n4]; rfl); clear n4 hb4 hb4' hr4 hr4')
  | (go_at_call 9; refine (HTx.out _ _ _ HB4.out HY4.out).mono ?_; rintro r w5 ⟨rfl, hb5⟩; have HB5 : Hid (Below w.heap.size w w5) := HB4.out.trans (hb5.mono HB4.out.size); have HR5 : Hid (RefY w5 (w3.heap.size + 1) (w3.heap.size + 2) m) := HR4.out.below hb5; clear hb5)
  | (go_at_call 10; refine (HTr.out _ _ _ HR5.out).mono ?_; rintro r w6 ⟨rfl, hb6⟩; have HB6 : Hid (Below w.heap.size w w6) := HB5.out.trans (hb6.mono HB5.out.size); clear hb6))
 go_ret
 exact ⟨rfl, HB6.out⟩
theorem costOf_long (v : Value) (code : ByteArray) (w : World) (s : Nat → Addr) (hs : Sent w s) (hp : Pow w) (hL : ∀ W, Below w.heap.size w W → Calls Tryz.prog 5 #[v, .int .i64 40] W fun r w' => r = .returned (.int .i64 1) ∧ Below W.heap.size W w') :
  Calls Tryz.prog 3 #[v, .string code] w fun r w' => r = .returned (.bool true) ∧ Below w.heap.size w w' := by
 have HCh : Hid (Calls Tryz.prog 4 _ _ _) := cheap_any w s hs.cs hp
 have HL : Hid (∀ W, Below w.heap.size w W → Calls Tryz.prog 5 #[v, .int .i64 40] W _) := hL
 clear hs hp hL
 go_enter Tryz.func3, Tryz.ntmps3
 go_wp2_with (first
  | (go_at_call 4; refine HCh.out.mono ?_; rintro r w1 ⟨rfl, hb1⟩; have HB1 : Hid (Below w.heap.size w w1) := hb1; clear hb1)
  | (go_at_call 5; refine (HL.out _ HB1.out).mono ?_; rintro r w2 ⟨rfl, hb2⟩; have HB2 : Hid (Below w.heap.size w w2) := HB1.out.trans (hb2.mono HB1.out.size); clear hb2))
 go_ret
 exact ⟨rfl, HB2.out⟩
theorem costOf_far (v : Value) (code : ByteArray) (w : World) (s : Nat → Addr) (hs : Sent w s) (hp : Pow w) (hcz : 30 < code.size) (hL : ∀ W, Below w.heap.size w W → Calls Tryz.prog 5 #[v, .int .i64 40] W fun r w' => r = .returned (.int .i64 0) ∧ Below W.heap.size W w') :
  Calls Tryz.prog 3 #[v, .string code] w fun r w' => r = .returned (.bool true) ∧ Below w.heap.size w w' := by
 have HCh : Hid (Calls Tryz.prog 4 _ _ _) := cheap_any w s hs.cs hp
 have HL : Hid (∀ W, Below w.heap.size w W → Calls Tryz.prog 5 #[v, .int .i64 40] W _) := hL
 have z2 : (30 : Int) < (code.size : Int) := by omega
 clear hs hp hL
 go_enter Tryz.func3, Tryz.ntmps3
 go_wp2_with (first
  | (go_at_call 4; refine HCh.out.mono ?_; rintro r w1 ⟨rfl, hb1⟩; have HB1 : Hid (Below w.heap.size w w1) := hb1; clear hb1)
  | (go_at_call 5; refine (HL.out _ HB1.out).mono ?_; rintro r w2 ⟨rfl, hb2⟩; have HB2 : Hid (Below w.heap.size w w2) := HB1.out.trans (hb2.mono HB1.out.size); clear hb2))
 go_ret
 exact ⟨rfl, HB2.out⟩
theorem costOf_any (v : Value) (code : ByteArray) (w : World) (s : Nat → Addr) (hs : Sent w s) (hh : Handle w) (hp : Pow w) (ho : (∃ ad c, v = .slice ad 0 c) ∨ ∃ b off c l, 1 ≤ l.length ∧ l.length ≤ maxLen ∧ v = .slice (some ⟨b, off, none⟩) l.length c ∧ Ents w b off l ∧ ∀ e ∈ l, SzE e) :
  Calls Tryz.prog 3 #[v, .string code] w fun r w' => r = .returned (.bool true) ∧ Below w.heap.size w w' := by
 have key : ∀ (pp : Option Addr) (l : List En) (cap : Nat), (∀ e ∈ l, SzE e) → (l = [] ∨ ∃ bq off, pp = some ⟨bq, off, none⟩ ∧ Ents w bq off l) → l.length ≤ 40 → longs l = false → Calls Tryz.prog 3 #[.slice pp l.length cap, .string code] w fun r w' => r = .returned (.bool true) ∧ Below w.heap.size w w' := fun pp l cap hz hr h40 hno => by
  by_cases hcz : code.size ≤ 30
  ·rcases erK_first l code l.length with hE | ⟨k, hk, hbe, hne⟩
   ·cases hG : isGoods (bkTo l l.length) code with
    | false => exact costOf_none pp l cap code w s hs hh hp hz hr h40 hno hcz hE hG
    | true => exact costOf_fine pp l cap code w s hs hp hz hr h40 hno hcz hE hG
   ·exact costOf_err pp l cap code w s hs hh hp hz hr h40 hno hcz hk hbe hne
  ·exact costOf_far _ code w s hs hp (by omega) (longs_zero hz hr h40 hno)
 rcases ho with ⟨ad, c, rfl⟩ | ⟨b, off, c, l, h1, hm, rfl, hE, hz⟩
 ·exact key ad [] c (by simp) (Or.inl rfl) (by decide) rfl
 ·by_cases h40 : l.length ≤ 40
  ·cases hl : longs l with
   | false => exact key _ l c hz (Or.inr ⟨b, off, rfl, hE⟩) h40 hl
   | true =>
    refine costOf_long _ code w s hs hp fun W hb => ?_
    have := longs_some l b off c 40 W (hE.below hE.lt hb) hz (by omega) (by decide)
    rw [hl] at this
    exact this
  ·refine costOf_long _ code w s hs hp fun W hb => ?_
   refine (longs_many (some ⟨b, off, none⟩) l.length c 40 W (by omega)).mono ?_
   rintro r w' ⟨rfl, rfl⟩
   exact ⟨rfl, Below.refl _ _⟩
end Go.Proofs.YtpnmbomjnpheeaaGreatDoor
