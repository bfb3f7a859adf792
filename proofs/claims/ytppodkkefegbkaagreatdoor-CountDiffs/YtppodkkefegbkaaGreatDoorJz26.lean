/-
 What heldAfter, sumsAfter and well answer: what is held, what the sums are behind an entry; are they well?
-/
import Derived.Test.YtppodkkefegbkaaGreatDoorJz12
import Derived.Test.YtppodkkefegbkaaGreatDoorJz11
import Derived.Test.YtppodkkefegbkaaGreatDoorJz6
import Derived.Test.YtppodkkefegbkaaGreatDoorKMove
import Derived.Test.YtppodkkefegbkaaGreatDoorGenM
import Derived.Shelf.SlMaps.Clone
import Derived.BigRegion
import Derived.Maps.OwnOps
import Derived.Test.YtppodkkefegbkaaGreatDoorJz9
import Derived.Deep.RegionHeld3
set_option maxRecDepth 100000
set_option maxHeartbeats 16000000
namespace Go.Proofs.YtppodkkefegbkaaGreatDoor
open Go.RowKit Go.Lib Go.Sort
theorem heldN_hold {k : ByteArray} (h : k = kHold) (a n : Int) : heldN k a n = a + n := by unfold heldN; rw [if_pos h]
theorem heldN_free {k : ByteArray} (h : k = kFree) (a n : Int) : heldN k a n = a - n := by unfold heldN; rw [if_neg (by rw [h]; decide), if_pos h]
theorem heldN_else {k : ByteArray} (h1 : k ≠ kHold) (h2 : k ≠ kFree) (a n : Int) : heldN k a n = a := by unfold heldN; rw [if_neg h1, if_neg h2]
theorem heldAfter_any (a : Int) (e : En) (w : World) (ha : 0 ≤ a ∧ a ≤ 1099511627776) (hn : 1 ≤ e.2.2.2.2.2 ∧ e.2.2.2.2.2 ≤ 1099511627776) :
  Calls Tryz.prog 69 #[.int .i64 a, agE e] w fun r w' => r = .returned (.int .i64 (heldN e.1 a e.2.2.2.2.2)) ∧ Below w.heap.size w w' := by
 have hE := BlkE.new w e
 have hb : Below w.heap.size w (w.alloc (celE e)) := (Below.refl _ w).alloc (Nat.le_refl _) _
 obtain ⟨a1, a2⟩ := ha
 obtain ⟨n1, n2⟩ := hn
 have c0 := hE.at.c0
 have c13 := hE.at.c13
 have HB : Hid (Below _ _ _) := hb
 clear hE hb
 by_cases h1 : e.1 = kHold
 ·rw [heldN_hold h1]
  have x1 : (e.1.toList == kHold.data.toList) = true := same_wordR h1
  clear h1
  obtain ⟨ak, ⟨agc, agp⟩, ⟨ali, alc, alu, alk⟩, ⟨afz, afr, afb⟩, ⟨atz, atr, atb⟩, an⟩ := e
  unfold agE celE at *
  simp only at *
  go_enter Tryz.func69, Tryz.ntmps69
  go_wp2
  go_ret
  exact ⟨rfl, HB.out⟩
 ·have x1 : (e.1.toList == kHold.data.toList) = false := other_word h1
  by_cases h2 : e.1 = kFree
  ·rw [heldN_free h2]
   have x2 : (e.1.toList == kFree.data.toList) = true := same_wordR h2
   clear h1 h2
   obtain ⟨ak, ⟨agc, agp⟩, ⟨ali, alc, alu, alk⟩, ⟨afz, afr, afb⟩, ⟨atz, atr, atb⟩, an⟩ := e
   unfold agE celE at *
   simp only at *
   go_enter Tryz.func69, Tryz.ntmps69
   go_wp2
   go_ret
   exact ⟨rfl, HB.out⟩
  ·rw [heldN_else h1 h2]
   have x2 : (e.1.toList == kFree.data.toList) = false := other_word h2
   clear h1 h2
   obtain ⟨ak, ⟨agc, agp⟩, ⟨ali, alc, alu, alk⟩, ⟨afz, afr, afb⟩, ⟨atz, atr, atb⟩, an⟩ := e
   unfold agE celE at *
   simp only at *
   go_enter Tryz.func69, Tryz.ntmps69
   go_wp2
   go_ret
   exact ⟨rfl, HB.out⟩
def max4 (a b c d : Int) : Int := (let m := if b > a then b else a; let n := if c > m then c else m; if d > n then d else n)
theorem max4_le (a b c d : Int) : decide (max4 a b c d ≤ mostS) = okSu (a, b, c, d) := by
 unfold max4 okSu
 simp only
 generalize mostS = M
 have e : ((if d > (if c > (if b > a then b else a) then c else (if b > a then b else a)) then d else (if c > (if b > a then b else a) then c else (if b > a then b else a))) ≤ M) ↔ (a ≤ M ∧ b ≤ M ∧ c ≤ M ∧ d ≤ M) := by
  repeat' split
  all_goals omega
 rw [Bool.eq_iff_iff]
 simp only [decide_eq_true_eq, Bool.and_eq_true]
 exact e
theorem well_any (u : Su) (w : World) : Calls Tryz.prog 72 #[agU u] w fun r w' => r = .returned (.bool (okSu u)) ∧ Below w.heap.size w w' := by
 obtain ⟨a, b, c, d⟩ := u
 unfold agU
 simp only
 have hb : Below w.heap.size w (w.alloc (.cells #[.int .i64 a, .int .i64 b, .int .i64 c, .int .i64 d] 68)) := (Below.refl _ w).alloc (Nat.le_refl _) _
 have HB : Hid (Below _ _ _) := hb
 have hmx : ∀ W, (Builtin.max_ #[3, 3, 3, 3] 3 #[.int .i64 a, .int .i64 b, .int .i64 c, .int .i64 d]).run Tryz.prog W = .ok (.int .i64 (max4 a b c d)) W := fun W => by simp [Builtin.max_, Builtin.max2, max4]
 rw [← max4_le]
 unfold mostS
 generalize max4 a b c d = m at *
 clear hb
 by_cases hm : m ≤ 65970697666560
 ·rw [decide_eq_true hm]
  go_enter Tryz.func72, Tryz.ntmps72
  go_wp2
  go_ret
  exact ⟨rfl, HB.out⟩
 ·rw [decide_eq_false hm]
  go_enter Tryz.func72, Tryz.ntmps72
  go_wp2
  go_ret
  exact ⟨rfl, HB.out⟩
theorem sums_in {k : ByteArray} (h : k = kIn) (s : Su) (n : Int) : addSu k s n = (s.1 + n, s.2.1, s.2.2.1, s.2.2.2) := by unfold addSu; rw [if_pos h]
theorem sums_more {k : ByteArray} (h : k = kMore) (s : Su) (n : Int) : addSu k s n = (s.1, s.2.1, s.2.2.1 + n, s.2.2.2) := by unfold addSu; rw [if_neg (by rw [h]; decide), if_pos h]
theorem sums_out {k : ByteArray} (h : k = kOut) (s : Su) (n : Int) : addSu k s n = (s.1, s.2.1 + n, s.2.2.1, s.2.2.2) := by unfold addSu; rw [if_neg (by rw [h]; decide), if_neg (by rw [h]; decide), if_pos h]
theorem sums_less {k : ByteArray} (h : k = kLess) (s : Su) (n : Int) : addSu k s n = (s.1, s.2.1, s.2.2.1, s.2.2.2 + n) := by unfold addSu; rw [if_neg (by rw [h]; decide), if_neg (by rw [h]; decide), if_neg (by rw [h]; decide), if_pos h]
theorem sums_else {k : ByteArray} (h1 : k ≠ kIn) (h2 : k ≠ kMore) (h3 : k ≠ kOut) (h4 : k ≠ kLess) (s : Su) (n : Int) : addSu k s n = s := by unfold addSu; rw [if_neg h1, if_neg h2, if_neg h3, if_neg h4]
theorem sumsAfter_in (u : Su) (e : En) (w : World) (hk : e.1 = kIn) (hu : (0 ≤ u.1 ∧ 0 ≤ u.2.1 ∧ 0 ≤ u.2.2.1 ∧ 0 ≤ u.2.2.2) ∧ okSu u = true) (hn : 1 ≤ e.2.2.2.2.2 ∧ e.2.2.2.2.2 ≤ 1099511627776) :
  Calls Tryz.prog 71 #[agU u, agE e] w fun r w' => r = .returned (agU (addSu e.1 u e.2.2.2.2.2)) ∧ Below w.heap.size w w' := by
 obtain ⟨⟨u1, u2, u3, u4⟩, u5⟩ := hu
 have u5' : (u.1 ≤ mostS ∧ u.2.1 ≤ mostS ∧ u.2.2.1 ≤ mostS ∧ u.2.2.2 ≤ mostS) := by unfold okSu at u5; simpa using u5
 obtain ⟨u6, u7, u8, u9⟩ := u5'
 unfold mostS at *
 obtain ⟨n1, n2⟩ := hn
 rw [sums_in hk]
 have xin : (e.1.toList == kIn.data.toList) = true := same_wordR hk
 clear hk u5
 obtain ⟨a, b, c, d⟩ := u
 obtain ⟨ak, ⟨agc, agp⟩, ⟨ali, alc, alu, alk⟩, ⟨afz, afr, afb⟩, ⟨atz, atr, atb⟩, an⟩ := e
 unfold agE agU at *
 simp only at *
 go_enter Tryz.func71, Tryz.ntmps71
 go_wp2
 refine bodyPost_ret (v := .agg #[.int .i64 (a + an), .int .i64 (b), .int .i64 (c), .int .i64 (d)]) (by simp [results, Tryz.results71, go_sem]) rfl ⟨rfl, ?_⟩
 exact (((Below.refl _ w).alloc (Nat.le_refl _) _).alloc (by simp) _).alloc (by simp; omega) _
theorem sumsAfter_out (u : Su) (e : En) (w : World) (hk : e.1 = kOut) (hu : (0 ≤ u.1 ∧ 0 ≤ u.2.1 ∧ 0 ≤ u.2.2.1 ∧ 0 ≤ u.2.2.2) ∧ okSu u = true) (hn : 1 ≤ e.2.2.2.2.2 ∧ e.2.2.2.2.2 ≤ 1099511627776) :
  Calls Tryz.prog 71 #[agU u, agE e] w fun r w' => r = .returned (agU (addSu e.1 u e.2.2.2.2.2)) ∧ Below w.heap.size w w' := by
 obtain ⟨⟨u1, u2, u3, u4⟩, u5⟩ := hu
 have u5' : (u.1 ≤ mostS ∧ u.2.1 ≤ mostS ∧ u.2.2.1 ≤ mostS ∧ u.2.2.2 ≤ mostS) := by unfold okSu at u5; simpa using u5
 obtain ⟨u6, u7, u8, u9⟩ := u5'
 unfold mostS at *
 obtain ⟨n1, n2⟩ := hn
 rw [sums_out hk]
 have xin : (e.1.toList == kIn.data.toList) = false := other_word (by rw [hk]; decide)
 have xout : (e.1.toList == kOut.data.toList) = true := same_wordR hk
 clear hk u5
 obtain ⟨a, b, c, d⟩ := u
 obtain ⟨ak, ⟨agc, agp⟩, ⟨ali, alc, alu, alk⟩, ⟨afz, afr, afb⟩, ⟨atz, atr, atb⟩, an⟩ := e
 unfold agE agU at *
 simp only at *
 go_enter Tryz.func71, Tryz.ntmps71
 go_wp2
 refine bodyPost_ret (v := .agg #[.int .i64 (a), .int .i64 (b + an), .int .i64 (c), .int .i64 (d)]) (by simp [results, Tryz.results71, go_sem]) rfl ⟨rfl, ?_⟩
 exact (((Below.refl _ w).alloc (Nat.le_refl _) _).alloc (by simp) _).alloc (by simp; omega) _
theorem sumsAfter_more (u : Su) (e : En) (w : World) (hk : e.1 = kMore) (hu : (0 ≤ u.1 ∧ 0 ≤ u.2.1 ∧ 0 ≤ u.2.2.1 ∧ 0 ≤ u.2.2.2) ∧ okSu u = true) (hn : 1 ≤ e.2.2.2.2.2 ∧ e.2.2.2.2.2 ≤ 1099511627776) :
  Calls Tryz.prog 71 #[agU u, agE e] w fun r w' => r = .returned (agU (addSu e.1 u e.2.2.2.2.2)) ∧ Below w.heap.size w w' := by
 obtain ⟨⟨u1, u2, u3, u4⟩, u5⟩ := hu
 have u5' : (u.1 ≤ mostS ∧ u.2.1 ≤ mostS ∧ u.2.2.1 ≤ mostS ∧ u.2.2.2 ≤ mostS) := by unfold okSu at u5; simpa using u5
 obtain ⟨u6, u7, u8, u9⟩ := u5'
 unfold mostS at *
 obtain ⟨n1, n2⟩ := hn
 rw [sums_more hk]
 have xin : (e.1.toList == kIn.data.toList) = false := other_word (by rw [hk]; decide)
 have xout : (e.1.toList == kOut.data.toList) = false := other_word (by rw [hk]; decide)
 have xmore : (e.1.toList == kMore.data.toList) = true := same_wordR hk
 clear hk u5
 obtain ⟨a, b, c, d⟩ := u
 obtain ⟨ak, ⟨agc, agp⟩, ⟨ali, alc, alu, alk⟩, ⟨afz, afr, afb⟩, ⟨atz, atr, atb⟩, an⟩ := e
 unfold agE agU at *
 simp only at *
 go_enter Tryz.func71, Tryz.ntmps71
 go_wp2
 refine bodyPost_ret (v := .agg #[.int .i64 (a), .int .i64 (b), .int .i64 (c + an), .int .i64 (d)]) (by simp [results, Tryz.results71, go_sem]) rfl ⟨rfl, ?_⟩
 exact (((Below.refl _ w).alloc (Nat.le_refl _) _).alloc (by simp) _).alloc (by simp; omega) _
theorem sumsAfter_less (u : Su) (e : En) (w : World) (hk : e.1 = kLess) (hu : (0 ≤ u.1 ∧ 0 ≤ u.2.1 ∧ 0 ≤ u.2.2.1 ∧ 0 ≤ u.2.2.2) ∧ okSu u = true) (hn : 1 ≤ e.2.2.2.2.2 ∧ e.2.2.2.2.2 ≤ 1099511627776) :
  Calls Tryz.prog 71 #[agU u, agE e] w fun r w' => r = .returned (agU (addSu e.1 u e.2.2.2.2.2)) ∧ Below w.heap.size w w' := by
 obtain ⟨⟨u1, u2, u3, u4⟩, u5⟩ := hu
 have u5' : (u.1 ≤ mostS ∧ u.2.1 ≤ mostS ∧ u.2.2.1 ≤ mostS ∧ u.2.2.2 ≤ mostS) := by unfold okSu at u5; simpa using u5
 obtain ⟨u6, u7, u8, u9⟩ := u5'
 unfold mostS at *
 obtain ⟨n1, n2⟩ := hn
 rw [sums_less hk]
 have xin : (e.1.toList == kIn.data.toList) = false := other_word (by rw [hk]; decide)
 have xout : (e.1.toList == kOut.data.toList) = false := other_word (by rw [hk]; decide)
 have xmore : (e.1.toList == kMore.data.toList) = false := other_word (by rw [hk]; decide)
 have xless : (e.1.toList == kLess.data.toList) = true := same_wordR hk
 clear hk u5
 obtain ⟨a, b, c, d⟩ := u
 obtain ⟨ak, ⟨agc, agp⟩, ⟨ali, alc, alu, alk⟩, ⟨afz, afr, afb⟩, ⟨atz, atr, atb⟩, an⟩ := e
 unfold agE agU at *
 simp only at *
 go_enter Tryz.func71, Tryz.ntmps71
 go_wp2
 refine bodyPost_ret (v := .agg #[.int .i64 (a), .int .i64 (b), .int .i64 (c), .int .i64 (d + an)]) (by simp [results, Tryz.results71, go_sem]) rfl ⟨rfl, ?_⟩
 exact (((Below.refl _ w).alloc (Nat.le_refl _) _).alloc (by simp) _).alloc (by simp; omega) _
theorem sumsAfter_else (u : Su) (e : En) (w : World) (h1 : e.1 ≠ kIn) (h2 : e.1 ≠ kMore) (h3 : e.1 ≠ kOut) (h4 : e.1 ≠ kLess)  :
  Calls Tryz.prog 71 #[agU u, agE e] w fun r w' => r = .returned (agU (addSu e.1 u e.2.2.2.2.2)) ∧ Below w.heap.size w w' := by
 rw [sums_else h1 h2 h3 h4]
 have xin : (e.1.toList == kIn.data.toList) = false := other_word h1
 have xout : (e.1.toList == kOut.data.toList) = false := other_word h3
 have xmore : (e.1.toList == kMore.data.toList) = false := other_word h2
 have xless : (e.1.toList == kLess.data.toList) = false := other_word h4
 clear h1 h2 h3 h4
 obtain ⟨a, b, c, d⟩ := u
 obtain ⟨ak, ⟨agc, agp⟩, ⟨ali, alc, alu, alk⟩, ⟨afz, afr, afb⟩, ⟨atz, atr, atb⟩, an⟩ := e
 unfold agE agU at *
 simp only at *
 go_enter Tryz.func71, Tryz.ntmps71
 go_wp2
 refine bodyPost_ret (v := .agg #[.int .i64 (a), .int .i64 (b), .int .i64 (c), .int .i64 (d)]) (by simp [results, Tryz.results71, go_sem]) rfl ⟨rfl, ?_⟩
 exact (((Below.refl _ w).alloc (Nat.le_refl _) _).alloc (by simp) _).alloc (by simp; omega) _
theorem sumsAfter_any (u : Su) (e : En) (w : World) (hu : (0 ≤ u.1 ∧ 0 ≤ u.2.1 ∧ 0 ≤ u.2.2.1 ∧ 0 ≤ u.2.2.2) ∧ okSu u = true) (hn : 1 ≤ e.2.2.2.2.2 ∧ e.2.2.2.2.2 ≤ 1099511627776) :
  Calls Tryz.prog 71 #[agU u, agE e] w fun r w' => r = .returned (agU (addSu e.1 u e.2.2.2.2.2)) ∧ Below w.heap.size w w' := by
 by_cases h1 : e.1 = kIn
 ·exact sumsAfter_in u e w h1 hu hn
 by_cases h2 : e.1 = kMore
 ·exact sumsAfter_more u e w h2 hu hn
 by_cases h3 : e.1 = kOut
 ·exact sumsAfter_out u e w h3 hu hn
 by_cases h4 : e.1 = kLess
 ·exact sumsAfter_less u e w h4 hu hn
 exact sumsAfter_else u e w h1 h2 h3 h4
end Go.Proofs.YtppodkkefegbkaaGreatDoor
namespace Go.Proofs.YtppodkkefegbkaaGreatDoor
open Go.RowKit Go.Lib Go.Sort Go.Shelf
theorem copyB_any (w : World) (p b : Nat) (m : List Ln) (h : IsStock w p b m) :
  Calls Tryz.prog 39 #[.pointer (some ⟨p, 0, none⟩)] w fun e w' => ∃ p' b', e = .returned (.pointer (some ⟨p', 0, none⟩)) ∧ w.heap.size ≤ p' ∧ w.heap.size ≤ b' ∧ IsStock w' p' b' m ∧ w'.heap[p']? = some (.cells #[.map (some b')] 97 (0, 0)) ∧ Below w.heap.size w w' := by
 obtain ⟨es, clock, hb, hst, hk, hp⟩ := h.map
 have hcl := AnyW.maps_Clone Tryz.laysCloneM b es clock w hb
 change Calls Tryz.prog 73 _ _ _ at hcl
 have HC : Hid (Calls Tryz.prog 73 _ _ _) := hcl
 have hc := h.cell
 have HM : Hid (MapL Tryz.prog 99 (w.alloc (.map es clock)) w.heap.size (m.map entN)) := ⟨es, clock, Go.heap_alloc_new w _, hst, hk, hp⟩
 have HW : Hid (Wf m) := h.wf
 clear hcl h hst hk hp hb
 go_enter Tryz.func39, Tryz.ntmps39
 go_wp2_with (go_at_call 73; refine HC.out.mono ?_; rintro e w1 ⟨rfl, rfl⟩)
 go_ret
 refine ⟨w.heap.size + 1, w.heap.size, by simp, by omega, Nat.le_refl _, ⟨by simp, ?_, HW.out⟩, ?_, ((Below.refl _ w).alloc (Nat.le_refl _) _).alloc (by simp) _⟩
 ·exact HM.out.below ((Below.refl (w.heap.size + 1) _).alloc (by simp) _) (by omega)
 ·have := heap_alloc_new (w.alloc (.map es clock)) (.cells #[.map (some w.heap.size)] 97)
  simpa using this
structure NewSt (w w' : World) (p b : Nat) (m : List Ln) : Prop where
 st : IsStock w' p b m
 blk : w'.heap[p]? = some (.cells #[.map (some b)] 97 (0, 0))
 lp : w.heap.size ≤ p
 lb : w.heap.size ≤ b
 below : Below w.heap.size w w'
theorem NewSt.turn {w w1 w2 : World} {p b : Nat} {m m' : List Ln} (h : NewSt w w1 p b m) (hs : IsStock w2 p b m') (hg : w1.grownBy w2 (some b)) : NewSt w w2 p b m' where
 st := hs
 blk := (hg.block p h.st.lt.1 (fun e => h.st.ne (by injection e))).trans h.blk
 lp := h.lp
 lb := h.lb
 below := h.below.trans ⟨hg.os, hg.tape, hg.output, hg.size, fun k hk => hg.block k (Nat.lt_of_lt_of_le hk h.below.size) (fun e => by injection e with e; have := h.lb; omega)⟩
theorem stkAft_in (w : World) (s : Nat → Addr) (q r : Nat) (m : List Ln) (e : En) (h : IsStock w q r m) (hk : e.1 = kIn) (hz : SzE e) (hs : Five w s) :
  Calls Tryz.prog 68 #[.pointer (some ⟨q, 0, none⟩), agE e] w fun r w' => ∃ p' b', r = .returned (.tuple #[.pointer (some ⟨p', 0, none⟩), errP s (putE m e.2.2.2.2.1 e.2.2.1.1 e.2.2.2.2.2)]) ∧ NewSt w w' p' b' (putL m e.2.2.2.2.1 e.2.2.1.1 e.2.2.2.2.2) := by
 have hE := BlkE.new w e
 have hb : Below w.heap.size w (w.alloc (celE e)) := (Below.refl _ w).alloc (Nat.le_refl _) _
 have HC : Hid (Calls Tryz.prog 39 _ _ _) := copyB_any (w.alloc (celE e)) q r m (h.all hb)
 have HE : Hid (BlkE _ _ _) := hE
 have HB : Hid (Below _ _ _) := hb
 have HP : Hid (∀ W p b, IsStock W p b m → Below w.heap.size w W → Calls Tryz.prog 98 #[.pointer (some ⟨p, 0, none⟩), agP e.2.2.2.2.1, .string e.2.2.1.1, .int .i64 e.2.2.2.2.2] W fun r w' => r = .returned (errP s (putE m e.2.2.2.2.1 e.2.2.1.1 e.2.2.2.2.2)) ∧ IsStock w' p b (putL m e.2.2.2.2.1 e.2.2.1.1 e.2.2.2.2.2) ∧ W.grownBy w' (some b)) := fun W p b hi hb => put_any e.2.2.2.2.1 e.2.2.1.1 e.2.2.2.2.2 W s p b m hi hz.tz hz.li (hs.below hb)
 have xin : (e.1.toList == kIn.data.toList) = true := same_wordR hk
 clear hE hb h hk hz hs
 obtain ⟨ak, ⟨agc, agp⟩, ⟨ali, alc, alu, alk⟩, ⟨afz, afr, afb⟩, ⟨atz, atr, atb⟩, an⟩ := e
 unfold agE celE agP at *
 simp only at *
 generalize putE m (atz, atr, atb) ali an = E at *
 generalize (putL m (atz, atr, atb) ali an) = M at *
 go_enter Tryz.func68, Tryz.ntmps68
 go_wp2_with (first
  | (go_at_call 39; refine HC.out.mono ?_; rintro r w1 ⟨p', b', rfl, hp', hb', hS, hblk, hb1⟩; have hE1 := HE.out.below hb1; obtain ⟨c0, c1, c2, c3, c4, c5, c6, c7, c8, c9, c10, c11, c12, c13⟩ := hE1.at; simp only at c0 c1 c2 c3 c4 c5 c6 c7 c8 c9 c10 c11 c12 c13; have HN : Hid (NewSt w w1 p' b' m) := ⟨hS, hblk, Nat.le_trans HB.out.size hp', Nat.le_trans HB.out.size hb', HB.out.trans (hb1.mono HB.out.size)⟩; clear hp' hb' hblk hb1 hE1 hS)
  | (go_at_call 98; refine (HP.out _ _ _ HN.out.st HN.out.below).mono ?_; rintro r w2 ⟨rfl, hS2, hg2⟩))
 exact bodyPost_ret (v := .tuple #[.pointer (some ⟨p', 0, none⟩), errP s E]) (by simp [results, Tryz.results68, go_sem]) rfl ⟨p', b', rfl, HN.out.turn hS2 hg2⟩
theorem stkAft_more (w : World) (s : Nat → Addr) (q r : Nat) (m : List Ln) (e : En) (h : IsStock w q r m) (hk : e.1 = kMore) (hz : SzE e) (hs : Five w s) :
  Calls Tryz.prog 68 #[.pointer (some ⟨q, 0, none⟩), agE e] w fun r w' => ∃ p' b', r = .returned (.tuple #[.pointer (some ⟨p', 0, none⟩), errP s (putE m e.2.2.2.2.1 e.2.2.1.1 e.2.2.2.2.2)]) ∧ NewSt w w' p' b' (putL m e.2.2.2.2.1 e.2.2.1.1 e.2.2.2.2.2) := by
 have hE := BlkE.new w e
 have hb : Below w.heap.size w (w.alloc (celE e)) := (Below.refl _ w).alloc (Nat.le_refl _) _
 have HC : Hid (Calls Tryz.prog 39 _ _ _) := copyB_any (w.alloc (celE e)) q r m (h.all hb)
 have HE : Hid (BlkE _ _ _) := hE
 have HB : Hid (Below _ _ _) := hb
 have HP : Hid (∀ W p b, IsStock W p b m → Below w.heap.size w W → Calls Tryz.prog 98 #[.pointer (some ⟨p, 0, none⟩), agP e.2.2.2.2.1, .string e.2.2.1.1, .int .i64 e.2.2.2.2.2] W fun r w' => r = .returned (errP s (putE m e.2.2.2.2.1 e.2.2.1.1 e.2.2.2.2.2)) ∧ IsStock w' p b (putL m e.2.2.2.2.1 e.2.2.1.1 e.2.2.2.2.2) ∧ W.grownBy w' (some b)) := fun W p b hi hb => put_any e.2.2.2.2.1 e.2.2.1.1 e.2.2.2.2.2 W s p b m hi hz.tz hz.li (hs.below hb)
 have xin : (e.1.toList == kIn.data.toList) = false := other_word (by rw [hk]; decide)
 have xmore : (e.1.toList == kMore.data.toList) = true := same_wordR hk
 clear hE hb h hk hz hs
 obtain ⟨ak, ⟨agc, agp⟩, ⟨ali, alc, alu, alk⟩, ⟨afz, afr, afb⟩, ⟨atz, atr, atb⟩, an⟩ := e
 unfold agE celE agP at *
 simp only at *
 generalize putE m (atz, atr, atb) ali an = E at *
 generalize (putL m (atz, atr, atb) ali an) = M at *
 go_enter Tryz.func68, Tryz.ntmps68
 go_wp2_with (first
  | (go_at_call 39; refine HC.out.mono ?_; rintro r w1 ⟨p', b', rfl, hp', hb', hS, hblk, hb1⟩; have hE1 := HE.out.below hb1; obtain ⟨c0, c1, c2, c3, c4, c5, c6, c7, c8, c9, c10, c11, c12, c13⟩ := hE1.at; simp only at c0 c1 c2 c3 c4 c5 c6 c7 c8 c9 c10 c11 c12 c13; have HN : Hid (NewSt w w1 p' b' m) := ⟨hS, hblk, Nat.le_trans HB.out.size hp', Nat.le_trans HB.out.size hb', HB.out.trans (hb1.mono HB.out.size)⟩; clear hp' hb' hblk hb1 hE1 hS)
  | (go_at_call 98; refine (HP.out _ _ _ HN.out.st HN.out.below).mono ?_; rintro r w2 ⟨rfl, hS2, hg2⟩))
 exact bodyPost_ret (v := .tuple #[.pointer (some ⟨p', 0, none⟩), errP s E]) (by simp [results, Tryz.results68, go_sem]) rfl ⟨p', b', rfl, HN.out.turn hS2 hg2⟩
theorem stkAft_out (w : World) (s : Nat → Addr) (q r : Nat) (m : List Ln) (e : En) (h : IsStock w q r m) (hk : e.1 = kOut) (hkey : KeyOk (e.2.2.2.1, e.2.2.1.1)) (hs : Five w s) :
  Calls Tryz.prog 68 #[.pointer (some ⟨q, 0, none⟩), agE e] w fun r w' => ∃ p' b', r = .returned (.tuple #[.pointer (some ⟨p', 0, none⟩), errP s (takeE m (e.2.2.2.1, e.2.2.1.1) e.2.2.2.2.2)]) ∧ NewSt w w' p' b' (takeL m (e.2.2.2.1, e.2.2.1.1) e.2.2.2.2.2) := by
 have hE := BlkE.new w e
 have hb : Below w.heap.size w (w.alloc (celE e)) := (Below.refl _ w).alloc (Nat.le_refl _) _
 have HC : Hid (Calls Tryz.prog 39 _ _ _) := copyB_any (w.alloc (celE e)) q r m (h.all hb)
 have HE : Hid (BlkE _ _ _) := hE
 have HB : Hid (Below _ _ _) := hb
 have HP : Hid (∀ W p b, IsStock W p b m → Below w.heap.size w W → Calls Tryz.prog 99 #[.pointer (some ⟨p, 0, none⟩), agP e.2.2.2.1, .string e.2.2.1.1, .int .i64 e.2.2.2.2.2] W fun r w' => r = .returned (errP s (takeE m (e.2.2.2.1, e.2.2.1.1) e.2.2.2.2.2)) ∧ IsStock w' p b (takeL m (e.2.2.2.1, e.2.2.1.1) e.2.2.2.2.2) ∧ W.grownBy w' (some b)) := fun W p b hi hb => take_any e.2.2.2.1 e.2.2.1.1 e.2.2.2.2.2 W s p b m hi hkey (hs.below hb)
 have xin : (e.1.toList == kIn.data.toList) = false := other_word (by rw [hk]; decide)
 have xmore : (e.1.toList == kMore.data.toList) = false := other_word (by rw [hk]; decide)
 have xout : (e.1.toList == kOut.data.toList) = true := same_wordR hk
 clear hE hb h hk hkey hs
 obtain ⟨ak, ⟨agc, agp⟩, ⟨ali, alc, alu, alk⟩, ⟨afz, afr, afb⟩, ⟨atz, atr, atb⟩, an⟩ := e
 unfold agE celE agP at *
 simp only at *
 generalize takeE m ((afz, afr, afb), ali) an = E at *
 generalize (takeL m ((afz, afr, afb), ali) an) = M at *
 go_enter Tryz.func68, Tryz.ntmps68
 go_wp2_with (first
  | (go_at_call 39; refine HC.out.mono ?_; rintro r w1 ⟨p', b', rfl, hp', hb', hS, hblk, hb1⟩; have hE1 := HE.out.below hb1; obtain ⟨c0, c1, c2, c3, c4, c5, c6, c7, c8, c9, c10, c11, c12, c13⟩ := hE1.at; simp only at c0 c1 c2 c3 c4 c5 c6 c7 c8 c9 c10 c11 c12 c13; have HN : Hid (NewSt w w1 p' b' m) := ⟨hS, hblk, Nat.le_trans HB.out.size hp', Nat.le_trans HB.out.size hb', HB.out.trans (hb1.mono HB.out.size)⟩; clear hp' hb' hblk hb1 hE1 hS)
  | (go_at_call 99; refine (HP.out _ _ _ HN.out.st HN.out.below).mono ?_; rintro r w2 ⟨rfl, hS2, hg2⟩))
 exact bodyPost_ret (v := .tuple #[.pointer (some ⟨p', 0, none⟩), errP s E]) (by simp [results, Tryz.results68, go_sem]) rfl ⟨p', b', rfl, HN.out.turn hS2 hg2⟩
theorem stkAft_less (w : World) (s : Nat → Addr) (q r : Nat) (m : List Ln) (e : En) (h : IsStock w q r m) (hk : e.1 = kLess) (hkey : KeyOk (e.2.2.2.1, e.2.2.1.1)) (hs : Five w s) :
  Calls Tryz.prog 68 #[.pointer (some ⟨q, 0, none⟩), agE e] w fun r w' => ∃ p' b', r = .returned (.tuple #[.pointer (some ⟨p', 0, none⟩), errP s (takeE m (e.2.2.2.1, e.2.2.1.1) e.2.2.2.2.2)]) ∧ NewSt w w' p' b' (takeL m (e.2.2.2.1, e.2.2.1.1) e.2.2.2.2.2) := by
 have hE := BlkE.new w e
 have hb : Below w.heap.size w (w.alloc (celE e)) := (Below.refl _ w).alloc (Nat.le_refl _) _
 have HC : Hid (Calls Tryz.prog 39 _ _ _) := copyB_any (w.alloc (celE e)) q r m (h.all hb)
 have HE : Hid (BlkE _ _ _) := hE
 have HB : Hid (Below _ _ _) := hb
 have HP : Hid (∀ W p b, IsStock W p b m → Below w.heap.size w W → Calls Tryz.prog 99 #[.pointer (some ⟨p, 0, none⟩), agP e.2.2.2.1, .string e.2.2.1.1, .int .i64 e.2.2.2.2.2] W fun r w' => r = .returned (errP s (takeE m (e.2.2.2.1, e.2.2.1.1) e.2.2.2.2.2)) ∧ IsStock w' p b (takeL m (e.2.2.2.1, e.2.2.1.1) e.2.2.2.2.2) ∧ W.grownBy w' (some b)) := fun W p b hi hb => take_any e.2.2.2.1 e.2.2.1.1 e.2.2.2.2.2 W s p b m hi hkey (hs.below hb)
 have xin : (e.1.toList == kIn.data.toList) = false := other_word (by rw [hk]; decide)
 have xmore : (e.1.toList == kMore.data.toList) = false := other_word (by rw [hk]; decide)
 have xout : (e.1.toList == kOut.data.toList) = false := other_word (by rw [hk]; decide)
 have xless : (e.1.toList == kLess.data.toList) = true := same_wordR hk
 clear hE hb h hk hkey hs
 obtain ⟨ak, ⟨agc, agp⟩, ⟨ali, alc, alu, alk⟩, ⟨afz, afr, afb⟩, ⟨atz, atr, atb⟩, an⟩ := e
 unfold agE celE agP at *
 simp only at *
 generalize takeE m ((afz, afr, afb), ali) an = E at *
 generalize (takeL m ((afz, afr, afb), ali) an) = M at *
 go_enter Tryz.func68, Tryz.ntmps68
 go_wp2_with (first
  | (go_at_call 39; refine HC.out.mono ?_; rintro r w1 ⟨p', b', rfl, hp', hb', hS, hblk, hb1⟩; have hE1 := HE.out.below hb1; obtain ⟨c0, c1, c2, c3, c4, c5, c6, c7, c8, c9, c10, c11, c12, c13⟩ := hE1.at; simp only at c0 c1 c2 c3 c4 c5 c6 c7 c8 c9 c10 c11 c12 c13; have HN : Hid (NewSt w w1 p' b' m) := ⟨hS, hblk, Nat.le_trans HB.out.size hp', Nat.le_trans HB.out.size hb', HB.out.trans (hb1.mono HB.out.size)⟩; clear hp' hb' hblk hb1 hE1 hS)
  | (go_at_call 99; refine (HP.out _ _ _ HN.out.st HN.out.below).mono ?_; rintro r w2 ⟨rfl, hS2, hg2⟩))
 exact bodyPost_ret (v := .tuple #[.pointer (some ⟨p', 0, none⟩), errP s E]) (by simp [results, Tryz.results68, go_sem]) rfl ⟨p', b', rfl, HN.out.turn hS2 hg2⟩
theorem stkAft_move (w : World) (s : Nat → Addr) (q r : Nat) (m : List Ln) (e : En) (h : IsStock w q r m) (hk : e.1 = kMove) (hz : SzE e) (hkey : KeyOk (e.2.2.2.1, e.2.2.1.1)) (hs : Five w s) :
  Calls Tryz.prog 68 #[.pointer (some ⟨q, 0, none⟩), agE e] w fun r w' => ∃ p' b', r = .returned (.tuple #[.pointer (some ⟨p', 0, none⟩), errP s (moveE m e.2.2.2.1 e.2.2.2.2.1 e.2.2.1.1 e.2.2.2.2.2)]) ∧ NewSt w w' p' b' (moveL m e.2.2.2.1 e.2.2.2.2.1 e.2.2.1.1 e.2.2.2.2.2) := by
 have hE := BlkE.new w e
 have hb : Below w.heap.size w (w.alloc (celE e)) := (Below.refl _ w).alloc (Nat.le_refl _) _
 have HC : Hid (Calls Tryz.prog 39 _ _ _) := copyB_any (w.alloc (celE e)) q r m (h.all hb)
 have HE : Hid (BlkE _ _ _) := hE
 have HB : Hid (Below _ _ _) := hb
 have HP : Hid (∀ W p b, IsStock W p b m → Below w.heap.size w W → Calls Tryz.prog 100 #[.pointer (some ⟨p, 0, none⟩), agP e.2.2.2.1, agP e.2.2.2.2.1, .string e.2.2.1.1, .int .i64 e.2.2.2.2.2] W fun r w' => r = .returned (errP s (moveE m e.2.2.2.1 e.2.2.2.2.1 e.2.2.1.1 e.2.2.2.2.2)) ∧ IsStock w' p b (moveL m e.2.2.2.1 e.2.2.2.2.1 e.2.2.1.1 e.2.2.2.2.2) ∧ W.grownBy w' (some b)) := fun W p b hi hb => move_any e.2.2.2.1 e.2.2.2.2.1 e.2.2.1.1 e.2.2.2.2.2 W s p b m hi hkey hz.tz hz.li (hs.below hb)
 have xin : (e.1.toList == kIn.data.toList) = false := other_word (by rw [hk]; decide)
 have xmore : (e.1.toList == kMore.data.toList) = false := other_word (by rw [hk]; decide)
 have xout : (e.1.toList == kOut.data.toList) = false := other_word (by rw [hk]; decide)
 have xless : (e.1.toList == kLess.data.toList) = false := other_word (by rw [hk]; decide)
 have xmove : (e.1.toList == kMove.data.toList) = true := same_wordR hk
 clear hE hb h hk hz hkey hs
 obtain ⟨ak, ⟨agc, agp⟩, ⟨ali, alc, alu, alk⟩, ⟨afz, afr, afb⟩, ⟨atz, atr, atb⟩, an⟩ := e
 unfold agE celE agP at *
 simp only at *
 generalize moveE m (afz, afr, afb) (atz, atr, atb) ali an = E at *
 generalize (moveL m (afz, afr, afb) (atz, atr, atb) ali an) = M at *
 go_enter Tryz.func68, Tryz.ntmps68
 go_wp2_with (first
  | (go_at_call 39; refine HC.out.mono ?_; rintro r w1 ⟨p', b', rfl, hp', hb', hS, hblk, hb1⟩; have hE1 := HE.out.below hb1; obtain ⟨c0, c1, c2, c3, c4, c5, c6, c7, c8, c9, c10, c11, c12, c13⟩ := hE1.at; simp only at c0 c1 c2 c3 c4 c5 c6 c7 c8 c9 c10 c11 c12 c13; have HN : Hid (NewSt w w1 p' b' m) := ⟨hS, hblk, Nat.le_trans HB.out.size hp', Nat.le_trans HB.out.size hb', HB.out.trans (hb1.mono HB.out.size)⟩; clear hp' hb' hblk hb1 hE1 hS)
  | (go_at_call 100; refine (HP.out _ _ _ HN.out.st HN.out.below).mono ?_; rintro r w2 ⟨rfl, hS2, hg2⟩))
 exact bodyPost_ret (v := .tuple #[.pointer (some ⟨p', 0, none⟩), errP s E]) (by simp [results, Tryz.results68, go_sem]) rfl ⟨p', b', rfl, HN.out.turn hS2 hg2⟩
theorem stkAft_else (w : World) (s : Nat → Addr) (q r : Nat) (m : List Ln) (e : En) (h : IsStock w q r m) (h1 : e.1 ≠ kIn) (h2 : e.1 ≠ kMore) (h3 : e.1 ≠ kOut) (h4 : e.1 ≠ kLess) (h5 : e.1 ≠ kMove) :
  Calls Tryz.prog 68 #[.pointer (some ⟨q, 0, none⟩), agE e] w fun r w' => ∃ p' b', r = .returned (.tuple #[.pointer (some ⟨p', 0, none⟩), errP s (0)]) ∧ NewSt w w' p' b' m := by
 have hE := BlkE.new w e
 have hb : Below w.heap.size w (w.alloc (celE e)) := (Below.refl _ w).alloc (Nat.le_refl _) _
 have HC : Hid (Calls Tryz.prog 39 _ _ _) := copyB_any (w.alloc (celE e)) q r m (h.all hb)
 have HE : Hid (BlkE _ _ _) := hE
 have HB : Hid (Below _ _ _) := hb
 have xin : (e.1.toList == kIn.data.toList) = false := other_word h1
 have xmore : (e.1.toList == kMore.data.toList) = false := other_word h2
 have xout : (e.1.toList == kOut.data.toList) = false := other_word h3
 have xless : (e.1.toList == kLess.data.toList) = false := other_word h4
 have xmove : (e.1.toList == kMove.data.toList) = false := other_word h5
 clear hE hb h h1 h2 h3 h4 h5
 obtain ⟨ak, ⟨agc, agp⟩, ⟨ali, alc, alu, alk⟩, ⟨afz, afr, afb⟩, ⟨atz, atr, atb⟩, an⟩ := e
 unfold agE celE at *
 simp only at *
 go_enter Tryz.func68, Tryz.ntmps68
 go_wp2_with (first
  | (go_at_call 39; refine HC.out.mono ?_; rintro r w1 ⟨p', b', rfl, hp', hb', hS, hblk, hb1⟩; have hE1 := HE.out.below hb1; obtain ⟨c0, c1, c2, c3, c4, c5, c6, c7, c8, c9, c10, c11, c12, c13⟩ := hE1.at; simp only at c0 c1 c2 c3 c4 c5 c6 c7 c8 c9 c10 c11 c12 c13; have HN : Hid (NewSt w w1 p' b' m) := ⟨hS, hblk, Nat.le_trans HB.out.size hp', Nat.le_trans HB.out.size hb', HB.out.trans (hb1.mono HB.out.size)⟩; clear hp' hb' hblk hb1 hE1 hS))
 exact bodyPost_ret (v := .tuple #[.pointer (some ⟨p', 0, none⟩), .nilIface]) (by simp [results, Tryz.results68, go_sem]) rfl ⟨p', b', rfl, HN.out⟩
theorem stockAfter_any (w : World) (s : Nat → Addr) (q r : Nat) (m : List Ln) (e : En) (h : IsStock w q r m) (hz : SzE e) (hs : Five w s) (he : entErr e = 0) (h1 : e.1 ≠ kGoods) (h2 : e.1 ≠ kLot) :
  Calls Tryz.prog 68 #[.pointer (some ⟨q, 0, none⟩), agE e] w fun r w' => ∃ p' b', r = .returned (.tuple #[.pointer (some ⟨p', 0, none⟩), errP s (stkE e m)]) ∧ NewSt w w' p' b' (stkL e m) := by
 have ho := (entErr_own he).1
 unfold stkE stkL
 rcases kind_cases e.1 with hk | hk | (hk | hk) | (hk | hk) | hk | (hk | hk) | hk
 ·exact absurd hk h1
 ·exact absurd hk h2
 ·have := stkAft_in w s q r m e h hk hz hs
  rw [hk, kd_in]; exact this
 ·have := stkAft_more w s q r m e h hk hz hs
  rw [hk, kd_more]; exact this
 ·have hkey : KeyOk (e.2.2.2.1, e.2.2.1.1) := keyOk_of (by unfold ownErr at ho; rw [hk, kd_out] at ho; exact (pieceErr_zero ho).2.1) hz.fz hz.li
  have := stkAft_out w s q r m e h hk hkey hs
  rw [hk, kd_out]; exact this
 ·have hkey : KeyOk (e.2.2.2.1, e.2.2.1.1) := keyOk_of (by unfold ownErr at ho; rw [hk, kd_less] at ho; exact (pieceErr_zero ho).2.1) hz.fz hz.li
  have := stkAft_less w s q r m e h hk hkey hs
  rw [hk, kd_less]; exact this
 ·have hkey : KeyOk (e.2.2.2.1, e.2.2.1.1) := keyOk_of (by unfold ownErr at ho; rw [hk, kd_move] at ho; exact (pieceErr_zero ho).2.1) hz.fz hz.li
  have := stkAft_move w s q r m e h hk hz hkey hs
  rw [hk, kd_move]; exact this
 ·have := stkAft_else w s q r m e h (by rw [hk]; decide) (by rw [hk]; decide) (by rw [hk]; decide) (by rw [hk]; decide) (by rw [hk]; decide)
  rw [hk, kd_hold]; exact this
 ·have := stkAft_else w s q r m e h (by rw [hk]; decide) (by rw [hk]; decide) (by rw [hk]; decide) (by rw [hk]; decide) (by rw [hk]; decide)
  rw [hk, kd_free]; exact this
 ·unfold ownErr at ho
  rw [hk.kd] at ho
  simp at ho
end Go.Proofs.YtppodkkefegbkaaGreatDoor
namespace Go.Proofs.YtppodkkefegbkaaGreatDoor
open Go.RowKit Go.Lib Go.Sort
open Go.Maps (Keyed)
theorem addG_exist (g : Gd) (w : World) (s : Nat → Addr) (B : Nat) (x : Bl) (b : Bk) (h : IsBk w B x b) (hz : g.1.size ≤ maxLen) (hs : Bs w s) (y : Gs) (hy : y ∈ b.1) (hyg : nameG y = g.1) :
  Calls Tryz.prog 35 #[.pointer (some ⟨x.p, 0, none⟩), agG g] w fun e w' => e = .returned (errP s 7) ∧ IsBk w' B x b ∧ Off x.all w w' := by
 obtain ⟨gc, gp⟩ := g
 simp only at hz hyg
 unfold agG
 simp only
 have hb1 : Below w.heap.size w (w.alloc (.cells #[.string gc, .int .i64 gp] 37)) := (Below.refl _ w).alloc (Nat.le_refl _) _
 have n1 := heap_alloc_new w (.cells #[.string gc, .int .i64 gp] 37)
 obtain ⟨ps, bs, h⟩ := h
 have h1 := h.all hb1
 have hs1 := hs.below hb1
 have hq := h1.drew.askG_yes hz hy hyg
 obtain ⟨W, hW⟩ : ∃ W, w.alloc (.cells #[.string gc, .int .i64 gp] 37) = W := ⟨_, rfl⟩
 rw [hW] at hb1 n1 h1 hs1 hq
 obtain ⟨c0, _⟩ := h1.cells
 have c1 : W.cell? ⟨w.heap.size, 0, none⟩ = some (.string gc) := by rw [cell_of_heap n1]; rfl
 obtain ⟨⟨yc, yp⟩, ys⟩ := y
 simp only at hq
 obtain ⟨V1, V2, V3, e1, e2, e3, ⟨k1, k2, k3⟩, ⟨k4, k5⟩, _, kb1, kb2, kb3⟩ := boxed2 W.drew (.string ⟨#[]⟩) (.int .i64 0) (.string yc) (.int .i64 yp) 37
 have zd : W.drew.heap.size = W.heap.size := rfl
 rw [zd] at e2 e3 k1 k2 k3 k4 k5
 have hbW : Below w.heap.size w V1 := hb1.trans (((Below.refl _ W).drew.trans (kb1.mono (Nat.le_refl _))).mono hb1.size)
 have hq1 := (h.all hbW).askG_yes hz hy hyg
 simp only at hq1
 obtain ⟨c2, _⟩ := (h.all hbW).cells
 have c3 : V1.cell? ⟨w.heap.size, 0, none⟩ = some (.string gc) := (kb1.cell (p := ⟨w.heap.size, 0, none⟩) (cell_lt c1)).trans c1
 have hbV : Below w.heap.size w V3 := hb1.trans (((Below.refl _ W).drew.trans (kb3.mono (Nat.le_refl _))).mono hb1.size)
 have hsV : V3.cell? ⟨2, 0, none⟩ = some (err (s 6)) := (hs.below hbV).exist
 have HF : Hid (IsBk V3 B x b ∧ Off x.all w V3) := ⟨⟨ps, bs, h.all hbV⟩, Off.of_below hbV⟩
 clear kb1 kb2 kb3 hbV hbW hs1 h1 hb1 n1 h hs zd
 go_enter Tryz.func35, Tryz.ntmps35
 go_wp2
 go_region
 go_wp2
 go_ret
 exact ⟨rfl, HF.out⟩
theorem BkAt.apart {w : World} {B : Nat} {x : Bl} {ps bs : Nat} {b : Bk} (h : BkAt w B x ps bs b) : (x.p ≠ x.g ∧ x.p ≠ x.u ∧ x.p ≠ x.l ∧ x.p ≠ x.h ∧ x.p ≠ bs) ∧ (ps ≠ x.g ∧ ps ≠ x.u ∧ ps ≠ x.l ∧ ps ≠ x.h) ∧ (x.g ≠ x.u ∧ x.g ≠ x.l ∧ x.g ≠ x.h ∧ x.g ≠ bs ∧ x.u ≠ x.l ∧ x.u ≠ x.h ∧ x.u ≠ bs ∧ x.l ≠ x.h ∧ x.l ≠ bs ∧ x.h ≠ bs) := by
 obtain ⟨c0, _⟩ := h.cells
 have := h.gu; have := h.ul; have := h.lh; have := h.hs
 exact ⟨⟨h.G.ne_of_cells c0, h.U.ne_of_cells c0, h.L.ne_of_cells c0, h.H.ne_of_cells c0, h.S.map.ne_of_cells c0⟩, ⟨h.G.ne_of_cells h.S.cell, h.U.ne_of_cells h.S.cell, h.L.ne_of_cells h.S.cell, h.H.ne_of_cells h.S.cell⟩, by omega⟩
theorem BkAt.goods {V W : World} {B : Nat} {x : Bl} {ps bs : Nat} {b : Bk} (h : BkAt V B x ps bs b) {g : Gd} (h0 : goodsE b g = 0) (hg : MapL Tryz.prog 9 W x.g ((insC nameG b.1 (g, zeroSu)).map entG)) (hu : MapL Tryz.prog 9 W x.u ((insC nameG b.1 (g, zeroSu)).map entU)) (hk : ∀ c, c ≠ x.g → c ≠ x.u → W.heap[c]? = V.heap[c]?) : BkAt W B x ps bs (goodsB b g) := by
 obtain ⟨⟨a1, a2, a3, a4, a5⟩, ⟨a6, a7, a8, a9⟩, d1, d2, d3, d4, d5, d6, d7, d8, d9, d10⟩ := h.apart
 exact { blk := (hk _ a1 a2).trans h.blk, G := hg, U := hu, L := h.L.of_block (hk _ d2.symm d5.symm), H := h.H.of_block (hk _ d3.symm d6.symm), sblk := (hk _ a6 a7).trans h.sblk, S := h.S.of_blocks (hk _ a6 a7) (hk _ d4.symm d7.symm), ok := h.ok.goods h0, bp := h.bp, bg := h.bg, gu := h.gu, ul := h.ul, lh := h.lh, hs := h.hs, bs := h.bs }
theorem addG_full (g : Gd) (w : World) (s : Nat → Addr) (B : Nat) (x : Bl) (b : Bk) (h : IsBk w B x b) (hz : g.1.size ≤ maxLen) (hs : Bs w s) (hn : ∀ y ∈ b.1, nameG y ≠ g.1) (hf : 30 ≤ b.1.length) :
  Calls Tryz.prog 35 #[.pointer (some ⟨x.p, 0, none⟩), agG g] w fun e w' => e = .returned (errP s 8) ∧ IsBk w' B x b ∧ Off x.all w w' := by
 obtain ⟨gc, gp⟩ := g
 simp only at hz hn
 unfold agG
 simp only
 have hb1 : Below w.heap.size w (w.alloc (.cells #[.string gc, .int .i64 gp] 37)) := (Below.refl _ w).alloc (Nat.le_refl _) _
 have n1 := heap_alloc_new w (.cells #[.string gc, .int .i64 gp] 37)
 obtain ⟨ps, bs, h⟩ := h
 have h1 := h.all hb1
 have hq := h1.drew.askG_no hz hn
 obtain ⟨W, hW⟩ : ∃ W, w.alloc (.cells #[.string gc, .int .i64 gp] 37) = W := ⟨_, rfl⟩
 rw [hW] at hb1 n1 h1 hq
 obtain ⟨c0, _⟩ := h1.cells
 have c1 : W.cell? ⟨w.heap.size, 0, none⟩ = some (.string gc) := by rw [cell_of_heap n1]; rfl
 obtain ⟨V1, V2, V3, e1, e2, e3, ⟨k1, k2, k3⟩, ⟨k4, k5⟩, _, kb1, kb2, kb3⟩ := boxed2 W.drew (.string ⟨#[]⟩) (.int .i64 0) (.string ⟨#[]⟩) (.int .i64 0) 37
 have zd : W.drew.heap.size = W.heap.size := rfl
 rw [zd] at e2 e3 k1 k2 k3 k4 k5
 have hbW : Below w.heap.size w V1 := hb1.trans (((Below.refl _ W).drew.trans (kb1.mono (Nat.le_refl _))).mono hb1.size)
 have hq1 := (h.all hbW).askG_no hz hn
 obtain ⟨c2, _⟩ := (h.all hbW).cells
 have c3 : V1.cell? ⟨w.heap.size, 0, none⟩ = some (.string gc) := (kb1.cell (p := ⟨w.heap.size, 0, none⟩) (cell_lt c1)).trans c1
 have hbV : Below w.heap.size w V3 := hb1.trans (((Below.refl _ W).drew.trans (kb3.mono (Nat.le_refl _))).mono hb1.size)
 have hsV : V3.cell? ⟨3, 0, none⟩ = some (err (s 7)) := (hs.below hbV).five.full
 have hm := (h.all hbV).G
 obtain ⟨ln, hln⟩ : ∃ ln, (b.1.map entG).length = ln := ⟨_, rfl⟩
 have hl30 : 30 ≤ ln := by rw [← hln]; simpa using hf
 have hl99 : ln ≤ 30 := by rw [← hln]; simpa using h.ok.wf.gl
 obtain ⟨c4, _⟩ := (h.all hbV).cells
 have HF : Hid (IsBk V3 B x b ∧ Off x.all w V3) := ⟨⟨ps, bs, h.all hbV⟩, Off.of_below hbV⟩
 clear kb1 kb2 kb3 hbV hbW h1 hb1 n1 h hs zd hf
 go_enter Tryz.func35, Tryz.ntmps35
 go_wp2
 go_region
 go_wp2_with (at_len; refine wpL_len rfl _ 87 rfl 9 37 Tryz.underlying87 x.g _ ln hln rfl hm ?_)
 go_ret
 exact ⟨rfl, HF.out⟩
theorem addG_ok (g : Gd) (w : World) (s : Nat → Addr) (B : Nat) (x : Bl) (b : Bk) (h : IsBk w B x b) (hz : g.1.size ≤ maxLen) (hn : ∀ y ∈ b.1, nameG y ≠ g.1) (hf : b.1.length < 30) (h0 : goodsE b g = 0) :
  Calls Tryz.prog 35 #[.pointer (some ⟨x.p, 0, none⟩), agG g] w fun e w' => e = .returned (errP s 0) ∧ IsBk w' B x (goodsB b g) ∧ Off x.all w w' := by
 obtain ⟨gc, gp⟩ := g
 simp only at hz hn
 unfold agG
 simp only
 have hb1 : Below w.heap.size w (w.alloc (.cells #[.string gc, .int .i64 gp] 37)) := (Below.refl _ w).alloc (Nat.le_refl _) _
 have n1 := heap_alloc_new w (.cells #[.string gc, .int .i64 gp] 37)
 obtain ⟨ps, bs, h⟩ := h
 have h1 := h.all hb1
 have hq := h1.drew.askG_no hz hn
 obtain ⟨W, hW⟩ : ∃ W, w.alloc (.cells #[.string gc, .int .i64 gp] 37) = W := ⟨_, rfl⟩
 rw [hW] at hb1 n1 h1 hq
 obtain ⟨c0, _⟩ := h1.cells
 have c1 : W.cell? ⟨w.heap.size, 0, none⟩ = some (.string gc) := by rw [cell_of_heap n1]; rfl
 obtain ⟨V1, V2, V3, e1, e2, e3, ⟨k1, k2, k3⟩, ⟨k4, k5⟩, _, kb1, kb2, kb3⟩ := boxed2 W.drew (.string ⟨#[]⟩) (.int .i64 0) (.string ⟨#[]⟩) (.int .i64 0) 37
 have zd : W.drew.heap.size = W.heap.size := rfl
 rw [zd] at e2 e3 k1 k2 k3 k4 k5
 have hbW : Below w.heap.size w V1 := hb1.trans (((Below.refl _ W).drew.trans (kb1.mono (Nat.le_refl _))).mono hb1.size)
 have hq1 := (h.all hbW).askG_no hz hn
 obtain ⟨c2, _⟩ := (h.all hbW).cells
 have c3 : V1.cell? ⟨w.heap.size, 0, none⟩ = some (.string gc) := (kb1.cell (p := ⟨w.heap.size, 0, none⟩) (cell_lt c1)).trans c1
 have hbV : Below w.heap.size w V3 := hb1.trans (((Below.refl _ W).drew.trans (kb3.mono (Nat.le_refl _))).mono hb1.size)
 have n3 : V3.heap[w.heap.size]? = some (.cells #[.string gc, .int .i64 gp] 37 (0, 0)) := (kb3.block _ (Array.getElem?_eq_some_iff.1 n1).1).trans n1
 have h3 := h.all hbV
 have hm := h3.G
 obtain ⟨ln, hln⟩ : ∃ ln, (b.1.map entG).length = ln := ⟨_, rfl⟩
 have hl30 : ln < 30 := by rw [← hln]; simpa using hf
 obtain ⟨c4, _⟩ := h3.cells
 obtain ⟨⟨a1, a2, a3, a4, a5⟩, ⟨a6, a7, a8, a9⟩, d1, d2, d3, d4, d5, d6, d7, d8, d9, d10⟩ := h.apart
 have hpG := ((insC_perm nameG b.1 ((gc, gp), zeroSu)).map entG).symm
 have hpU := ((insC_perm nameG b.1 ((gc, gp), zeroSu)).map entU).symm
 have E1 : EntSt Tryz.prog 9 87 V3.drew x.g (.string gc) (.agg #[.string gc, .int .i64 gp]) ((insC nameG b.1 ((gc, gp), zeroSu)).map entG) :=
  EntSt.new Tryz.keyedS Tryz.underlying87 (keyS hz) (h3.G.of_block (w' := V3.drew) rfl) Tryz.zeroValue37 (fun v hv => by obtain ⟨y, hy, e, _⟩ := mem_entG hv; exact hn y hy e) _ hpG
 have E2 : ∀ V, MapL Tryz.prog 9 V x.u (b.1.map entU) → EntSt Tryz.prog 9 88 V x.u (.string gc) (.agg #[.int .i64 0, .int .i64 0, .int .i64 0, .int .i64 0]) ((insC nameG b.1 ((gc, gp), zeroSu)).map entU) := fun V hV =>
  EntSt.new Tryz.keyedS Tryz.underlying88 (keyS hz) hV Tryz.zeroValue68 (fun v hv => by obtain ⟨y, hy, e, _⟩ := mem_entU hv; exact hn y hy e) _ hpU
 obtain ⟨st, z, w2, w3, st', z', w4, w5, r1, r2, r3, r4, r5, r6, r7, r8⟩ := two_ents E1 (h3.U.of_block (w' := V3.drew) rfl) E2 d1
 have n3d : V3.drew.heap[w.heap.size]? = some (.cells #[.string gc, .int .i64 gp] 37 (0, 0)) := n3
 have nq : w.heap.size ≠ x.g ∧ w.heap.size ≠ x.u := by have := h.lts; omega
 obtain ⟨o2, o3, o4, o5⟩ := r7 _ nq.1 nq.2
 obtain ⟨p2, p3, p4, p5⟩ := r7 _ a1 a2
 have x0 : V3.drew.cell? ⟨w.heap.size, 0, none⟩ = some (.string gc) := by rw [cell_of_heap n3d]; rfl
 have x1 : V3.drew.cell? ⟨w.heap.size, 1, none⟩ = some (.int .i64 gp) := by rw [cell_of_heap n3d]; rfl
 have x2 : w2.cell? ⟨w.heap.size, 0, none⟩ = some (.string gc) := by rw [cell_of_heap (o2.trans n3d)]; rfl
 have x3 : w2.cell? ⟨w.heap.size, 1, none⟩ = some (.int .i64 gp) := by rw [cell_of_heap (o2.trans n3d)]; rfl
 have x4 : w3.cell? ⟨w.heap.size, 0, none⟩ = some (.string gc) := by rw [cell_of_heap (o3.trans n3d)]; rfl
 have x5 : w3.cell? ⟨w.heap.size, 1, none⟩ = some (.int .i64 gp) := by rw [cell_of_heap (o3.trans n3d)]; rfl
 have hd := h3.drew.blk
 have y0 : V3.drew.cell? ⟨x.p, 0, none⟩ = some (.map (some x.g)) := by rw [cell_of_heap hd]; rfl
 have y1 : V3.drew.cell? ⟨x.p, 1, none⟩ = some (.map (some x.u)) := by rw [cell_of_heap hd]; rfl
 have y2 : w2.cell? ⟨x.p, 1, none⟩ = some (.map (some x.u)) := by rw [cell_of_heap (p2.trans hd)]; rfl
 have y3 : w3.cell? ⟨x.p, 1, none⟩ = some (.map (some x.u)) := by rw [cell_of_heap (p3.trans hd)]; rfl
 have HF : Hid (IsBk w5 B x (goodsB b (gc, gp)) ∧ Off x.all w w5) := by
  refine ⟨⟨ps, bs, h3.drew.goods h0 r5 r6 fun c h1 h2 => (r7 c h1 h2).2.2.2⟩, ?_⟩
  have q1 : Off x.all w V3.drew := Off.of_below hbV.drew
  exact q1.trans (r8.mono (by simp [Bl.all]))
 clear kb1 kb2 kb3 hbV hbW h1 hb1 n1 h zd hf r5 r6 r7 r8 E1 E2 hpG hpU h3 hd p2 p3 p4 p5 o2 o3 o4 o5 n3 n3d hn
 go_enter Tryz.func35, Tryz.ntmps35
 go_wp2
 go_region
 go_wp2_with (at_len; refine wpL_len rfl _ 87 rfl 9 37 Tryz.underlying87 x.g _ ln hln rfl hm ?_)
 go_region
 go_wp2
 go_ret
 exact ⟨rfl, HF.out⟩
theorem BkAt.lot {V W : World} {B : Nat} {x : Bl} {ps bs : Nat} {b : Bk} (h : BkAt V B x ps bs b) {l : Lo} (h0 : lotBE b l = 0) (hg : MapL Tryz.prog 9 W x.l ((insC nameL b.2.1 (l, 0)).map entL)) (hu : MapL Tryz.prog 9 W x.h ((insC nameL b.2.1 (l, 0)).map entH)) (hk : ∀ c, c ≠ x.l → c ≠ x.h → W.heap[c]? = V.heap[c]?) : BkAt W B x ps bs (lotB b l) := by
 obtain ⟨⟨a1, a2, a3, a4, a5⟩, ⟨a6, a7, a8, a9⟩, d1, d2, d3, d4, d5, d6, d7, d8, d9, d10⟩ := h.apart
 exact { blk := (hk _ a3 a4).trans h.blk, G := h.G.of_block (hk _ d2 d3), U := h.U.of_block (hk _ d5 d6), L := hg, H := hu, sblk := (hk _ a8 a9).trans h.sblk, S := h.S.of_blocks (hk _ a8 a9) (hk _ d9.symm d10.symm), ok := h.ok.lot h0, bp := h.bp, bg := h.bg, gu := h.gu, ul := h.ul, lh := h.lh, hs := h.hs, bs := h.bs }
theorem addL_exist (l : Lo) (w : World) (s : Nat → Addr) (B : Nat) (x : Bl) (b : Bk) (h : IsBk w B x b) (hz : l.1.size ≤ maxLen) (hz' : l.2.1.size ≤ maxLen) (hs : Bs w s) (y : Lh) (hy : y ∈ b.2.1) (hyl : nameL y = l.1) :
  Calls Tryz.prog 36 #[.pointer (some ⟨x.p, 0, none⟩), agQ l] w fun e w' => e = .returned (errP s 7) ∧ IsBk w' B x b ∧ Off x.all w w' := by
 obtain ⟨li, lc, lu, lk⟩ := l
 simp only at *
 unfold agQ
 simp only
 have hb1 : Below w.heap.size w (w.alloc (.cells #[.string li, .string lc, .int .i64 lu, .int .i64 lk] 39)) := (Below.refl _ w).alloc (Nat.le_refl _) _
 have n1 := heap_alloc_new w (.cells #[.string li, .string lc, .int .i64 lu, .int .i64 lk] 39)
 obtain ⟨ps, bs, h⟩ := h
 have h1 := h.all hb1
 obtain ⟨W, hW⟩ : ∃ W, w.alloc (.cells #[.string li, .string lc, .int .i64 lu, .int .i64 lk] 39) = W := ⟨_, rfl⟩
 rw [hW] at hb1 n1 h1
 have hq := h1.drew.askL_yes hz hy hyl
 obtain ⟨⟨yi, yc, yu, yk⟩, yh⟩ := y
 simp only at hq
 obtain ⟨_, _, c0, _⟩ := h1.cells
 have c1 : W.cell? ⟨w.heap.size, 0, none⟩ = some (.string li) := by rw [cell_of_heap n1]; rfl
 obtain ⟨V1, V2, V3, V4, V5, e1, e2, e3, e4, e5, ⟨k1, k2, k3, k4, k5⟩, ⟨k6, k7⟩, ⟨k8, k9⟩, ⟨k10, k11⟩, _, kb1, kb5⟩ := boxed4 W.drew (.string ⟨#[]⟩) (.string ⟨#[]⟩) (.int .i64 0) (.int .i64 0) (.string yi) (.string yc) (.int .i64 yu) (.int .i64 yk) 39
 have zd : W.drew.heap.size = W.heap.size := rfl
 rw [zd] at e2 e3 e4 e5 k1 k2 k3 k4 k5 k6 k7 k8 k9 k10 k11
 have hbW : Below w.heap.size w V1 := hb1.trans (((Below.refl _ W).drew.trans (kb1.mono (Nat.le_refl _))).mono hb1.size)
 have hq1 := (h.all hbW).askL_yes hz hy hyl
 (try simp only at hq1)
 obtain ⟨_, _, c2, _⟩ := (h.all hbW).cells
 have c3 : V1.cell? ⟨w.heap.size, 0, none⟩ = some (.string li) := (kb1.cell (p := ⟨w.heap.size, 0, none⟩) (cell_lt c1)).trans c1
 have hbV : Below w.heap.size w V5 := hb1.trans (((Below.refl _ W).drew.trans (kb5.mono (Nat.le_refl _))).mono hb1.size)
 have n3 : V5.heap[w.heap.size]? = some (.cells #[.string li, .string lc, .int .i64 lu, .int .i64 lk] 39 (0, 0)) := (kb5.block _ (Array.getElem?_eq_some_iff.1 n1).1).trans n1
 have h3 := h.all hbV
 clear kb1 kb5 hbW h1 hb1 n1 zd
 have hsV : V5.cell? ⟨2, 0, none⟩ = some (err (s 6)) := (hs.below hbV).exist
 have HF : Hid (IsBk V5 B x b ∧ Off x.all w V5) := ⟨⟨ps, bs, h3⟩, Off.of_below hbV⟩
 clear hbV h3 n3 h hs
 go_enter Tryz.func36, Tryz.ntmps36
 go_wp2
 go_region
 go_wp2
 go_ret
 exact ⟨rfl, HF.out⟩
theorem addL_none (l : Lo) (w : World) (s : Nat → Addr) (B : Nat) (x : Bl) (b : Bk) (h : IsBk w B x b) (hz : l.1.size ≤ maxLen) (hz' : l.2.1.size ≤ maxLen) (hs : Bs w s) (hn : ∀ y ∈ b.2.1, nameL y ≠ l.1) (hng : ∀ y ∈ b.1, nameG y ≠ l.2.1) :
  Calls Tryz.prog 36 #[.pointer (some ⟨x.p, 0, none⟩), agQ l] w fun e w' => e = .returned (errP s 6) ∧ IsBk w' B x b ∧ Off x.all w w' := by
 obtain ⟨li, lc, lu, lk⟩ := l
 simp only at *
 unfold agQ
 simp only
 have hb1 : Below w.heap.size w (w.alloc (.cells #[.string li, .string lc, .int .i64 lu, .int .i64 lk] 39)) := (Below.refl _ w).alloc (Nat.le_refl _) _
 have n1 := heap_alloc_new w (.cells #[.string li, .string lc, .int .i64 lu, .int .i64 lk] 39)
 obtain ⟨ps, bs, h⟩ := h
 have h1 := h.all hb1
 obtain ⟨W, hW⟩ : ∃ W, w.alloc (.cells #[.string li, .string lc, .int .i64 lu, .int .i64 lk] 39) = W := ⟨_, rfl⟩
 rw [hW] at hb1 n1 h1
 have hq := h1.drew.askL_no hz hn
 obtain ⟨_, _, c0, _⟩ := h1.cells
 have c1 : W.cell? ⟨w.heap.size, 0, none⟩ = some (.string li) := by rw [cell_of_heap n1]; rfl
 obtain ⟨V1, V2, V3, V4, V5, e1, e2, e3, e4, e5, ⟨k1, k2, k3, k4, k5⟩, ⟨k6, k7⟩, ⟨k8, k9⟩, ⟨k10, k11⟩, _, kb1, kb5⟩ := boxed4 W.drew (.string ⟨#[]⟩) (.string ⟨#[]⟩) (.int .i64 0) (.int .i64 0) (.string ⟨#[]⟩) (.string ⟨#[]⟩) (.int .i64 0) (.int .i64 0) 39
 have zd : W.drew.heap.size = W.heap.size := rfl
 rw [zd] at e2 e3 e4 e5 k1 k2 k3 k4 k5 k6 k7 k8 k9 k10 k11
 have hbW : Below w.heap.size w V1 := hb1.trans (((Below.refl _ W).drew.trans (kb1.mono (Nat.le_refl _))).mono hb1.size)
 have hq1 := (h.all hbW).askL_no hz hn
 (try simp only at hq1)
 obtain ⟨_, _, c2, _⟩ := (h.all hbW).cells
 have c3 : V1.cell? ⟨w.heap.size, 0, none⟩ = some (.string li) := (kb1.cell (p := ⟨w.heap.size, 0, none⟩) (cell_lt c1)).trans c1
 have hbV : Below w.heap.size w V5 := hb1.trans (((Below.refl _ W).drew.trans (kb5.mono (Nat.le_refl _))).mono hb1.size)
 have n3 : V5.heap[w.heap.size]? = some (.cells #[.string li, .string lc, .int .i64 lu, .int .i64 lk] 39 (0, 0)) := (kb5.block _ (Array.getElem?_eq_some_iff.1 n1).1).trans n1
 have h3 := h.all hbV
 clear kb1 kb5 hbW h1 hb1 n1 zd
 have hg := h3.drew.askG_no hz' hng
 obtain ⟨f0, _, _, _⟩ := h3.drew.cells
 have n3d : V5.drew.heap[w.heap.size]? = some (.cells #[.string li, .string lc, .int .i64 lu, .int .i64 lk] 39 (0, 0)) := n3
 have f1 : V5.drew.cell? ⟨w.heap.size, 1, none⟩ = some (.string lc) := by rw [cell_of_heap n3d]; rfl
 obtain ⟨U1, U2, U3, g1, g2, g3, ⟨j1, j2, j3⟩, ⟨j4, j5⟩, _, jb1, jb2, jb3⟩ := boxed2 V5.drew (.string ⟨#[]⟩) (.int .i64 0) (.string ⟨#[]⟩) (.int .i64 0) 37
 have zd : V5.drew.heap.size = V5.heap.size := rfl
 rw [zd] at g2 g3 j1 j2 j3 j4 j5
 have hbU1 : Below w.heap.size w U1 := hbV.drew.trans (jb1.mono hbV.size)
 have hbU : Below w.heap.size w U3 := hbV.drew.trans (jb3.mono hbV.size)
 have hg1 := (h.all hbU1).askG_no hz' hng
 (try simp only at hg1)
 obtain ⟨f2, _, _, _⟩ := (h.all hbU1).cells
 have f3 : U1.cell? ⟨w.heap.size, 1, none⟩ = some (.string lc) := (jb1.cell (p := ⟨w.heap.size, 1, none⟩) (cell_lt f1)).trans f1
 have n4 : U3.heap[w.heap.size]? = some (.cells #[.string li, .string lc, .int .i64 lu, .int .i64 lk] 39 (0, 0)) := (jb3.block _ (Array.getElem?_eq_some_iff.1 n3d).1).trans n3d
 have h4 := h.all hbU
 have hsV : U3.cell? ⟨1, 0, none⟩ = some (err (s 5)) := (hs.below hbU).none_
 have HF : Hid (IsBk U3 B x b ∧ Off x.all w U3) := ⟨⟨ps, bs, h4⟩, Off.of_below hbU⟩
 clear hbV hbU hbU1 jb1 jb2 jb3 h3 h4 n3 n3d n4 h hs zd hn hng
 go_enter Tryz.func36, Tryz.ntmps36
 go_wp2
 go_region
 go_wp2
 go_region
 go_wp2
 go_ret
 exact ⟨rfl, HF.out⟩
theorem addL_full (l : Lo) (w : World) (s : Nat → Addr) (B : Nat) (x : Bl) (b : Bk) (h : IsBk w B x b) (hz : l.1.size ≤ maxLen) (hz' : l.2.1.size ≤ maxLen) (hs : Bs w s) (hn : ∀ y ∈ b.2.1, nameL y ≠ l.1) (y : Gs) (hy : y ∈ b.1) (hyg : nameG y = l.2.1) (hf : 60 ≤ b.2.1.length) :
  Calls Tryz.prog 36 #[.pointer (some ⟨x.p, 0, none⟩), agQ l] w fun e w' => e = .returned (errP s 8) ∧ IsBk w' B x b ∧ Off x.all w w' := by
 obtain ⟨li, lc, lu, lk⟩ := l
 simp only at *
 unfold agQ
 simp only
 have hb1 : Below w.heap.size w (w.alloc (.cells #[.string li, .string lc, .int .i64 lu, .int .i64 lk] 39)) := (Below.refl _ w).alloc (Nat.le_refl _) _
 have n1 := heap_alloc_new w (.cells #[.string li, .string lc, .int .i64 lu, .int .i64 lk] 39)
 obtain ⟨ps, bs, h⟩ := h
 have h1 := h.all hb1
 obtain ⟨W, hW⟩ : ∃ W, w.alloc (.cells #[.string li, .string lc, .int .i64 lu, .int .i64 lk] 39) = W := ⟨_, rfl⟩
 rw [hW] at hb1 n1 h1
 have hq := h1.drew.askL_no hz hn
 obtain ⟨_, _, c0, _⟩ := h1.cells
 have c1 : W.cell? ⟨w.heap.size, 0, none⟩ = some (.string li) := by rw [cell_of_heap n1]; rfl
 obtain ⟨V1, V2, V3, V4, V5, e1, e2, e3, e4, e5, ⟨k1, k2, k3, k4, k5⟩, ⟨k6, k7⟩, ⟨k8, k9⟩, ⟨k10, k11⟩, _, kb1, kb5⟩ := boxed4 W.drew (.string ⟨#[]⟩) (.string ⟨#[]⟩) (.int .i64 0) (.int .i64 0) (.string ⟨#[]⟩) (.string ⟨#[]⟩) (.int .i64 0) (.int .i64 0) 39
 have zd : W.drew.heap.size = W.heap.size := rfl
 rw [zd] at e2 e3 e4 e5 k1 k2 k3 k4 k5 k6 k7 k8 k9 k10 k11
 have hbW : Below w.heap.size w V1 := hb1.trans (((Below.refl _ W).drew.trans (kb1.mono (Nat.le_refl _))).mono hb1.size)
 have hq1 := (h.all hbW).askL_no hz hn
 (try simp only at hq1)
 obtain ⟨_, _, c2, _⟩ := (h.all hbW).cells
 have c3 : V1.cell? ⟨w.heap.size, 0, none⟩ = some (.string li) := (kb1.cell (p := ⟨w.heap.size, 0, none⟩) (cell_lt c1)).trans c1
 have hbV : Below w.heap.size w V5 := hb1.trans (((Below.refl _ W).drew.trans (kb5.mono (Nat.le_refl _))).mono hb1.size)
 have n3 : V5.heap[w.heap.size]? = some (.cells #[.string li, .string lc, .int .i64 lu, .int .i64 lk] 39 (0, 0)) := (kb5.block _ (Array.getElem?_eq_some_iff.1 n1).1).trans n1
 have h3 := h.all hbV
 clear kb1 kb5 hbW h1 hb1 n1 zd
 have hg := h3.drew.askG_yes hz' hy hyg
 obtain ⟨⟨yc, yp⟩, ys⟩ := y
 simp only at hg
 obtain ⟨f0, _, _, _⟩ := h3.drew.cells
 have n3d : V5.drew.heap[w.heap.size]? = some (.cells #[.string li, .string lc, .int .i64 lu, .int .i64 lk] 39 (0, 0)) := n3
 have f1 : V5.drew.cell? ⟨w.heap.size, 1, none⟩ = some (.string lc) := by rw [cell_of_heap n3d]; rfl
 obtain ⟨U1, U2, U3, g1, g2, g3, ⟨j1, j2, j3⟩, ⟨j4, j5⟩, _, jb1, jb2, jb3⟩ := boxed2 V5.drew (.string ⟨#[]⟩) (.int .i64 0) (.string yc) (.int .i64 yp) 37
 have zd : V5.drew.heap.size = V5.heap.size := rfl
 rw [zd] at g2 g3 j1 j2 j3 j4 j5
 have hbU1 : Below w.heap.size w U1 := hbV.drew.trans (jb1.mono hbV.size)
 have hbU : Below w.heap.size w U3 := hbV.drew.trans (jb3.mono hbV.size)
 have hg1 := (h.all hbU1).askG_yes hz' hy hyg
 (try simp only at hg1)
 obtain ⟨f2, _, _, _⟩ := (h.all hbU1).cells
 have f3 : U1.cell? ⟨w.heap.size, 1, none⟩ = some (.string lc) := (jb1.cell (p := ⟨w.heap.size, 1, none⟩) (cell_lt f1)).trans f1
 have n4 : U3.heap[w.heap.size]? = some (.cells #[.string li, .string lc, .int .i64 lu, .int .i64 lk] 39 (0, 0)) := (jb3.block _ (Array.getElem?_eq_some_iff.1 n3d).1).trans n3d
 have h4 := h.all hbU
 have hm := h4.L
 obtain ⟨ln, hln⟩ : ∃ ln, (b.2.1.map entL).length = ln := ⟨_, rfl⟩
 obtain ⟨_, _, f4, _⟩ := h4.cells
 have hl60 : 60 ≤ ln := by rw [← hln]; simpa using hf
 have hl99 : ln ≤ 60 := by rw [← hln]; simpa using h.ok.wf.ll
 have hsV : U3.cell? ⟨3, 0, none⟩ = some (err (s 7)) := (hs.below hbU).five.full
 have HF : Hid (IsBk U3 B x b ∧ Off x.all w U3) := ⟨⟨ps, bs, h4⟩, Off.of_below hbU⟩
 clear hbV hbU hbU1 jb1 jb2 jb3 h3 h4 n3 n3d n4 h hs zd hn hf
 go_enter Tryz.func36, Tryz.ntmps36
 go_wp2
 go_region
 go_wp2
 go_region
 go_wp2_with (at_len; refine wpL_len rfl _ 89 rfl 9 39 Tryz.underlying89 x.l _ ln hln rfl hm ?_)
 go_ret
 exact ⟨rfl, HF.out⟩
theorem addL_ok (l : Lo) (w : World) (s : Nat → Addr) (B : Nat) (x : Bl) (b : Bk) (h : IsBk w B x b) (hz : l.1.size ≤ maxLen) (hz' : l.2.1.size ≤ maxLen) (hn : ∀ y ∈ b.2.1, nameL y ≠ l.1) (y : Gs) (hy : y ∈ b.1) (hyg : nameG y = l.2.1) (hf : b.2.1.length < 60) (h0 : lotBE b l = 0) :
  Calls Tryz.prog 36 #[.pointer (some ⟨x.p, 0, none⟩), agQ l] w fun e w' => e = .returned (errP s 0) ∧ IsBk w' B x (lotB b l) ∧ Off x.all w w' := by
 obtain ⟨li, lc, lu, lk⟩ := l
 simp only at *
 unfold agQ
 simp only
 have hb1 : Below w.heap.size w (w.alloc (.cells #[.string li, .string lc, .int .i64 lu, .int .i64 lk] 39)) := (Below.refl _ w).alloc (Nat.le_refl _) _
 have n1 := heap_alloc_new w (.cells #[.string li, .string lc, .int .i64 lu, .int .i64 lk] 39)
 obtain ⟨ps, bs, h⟩ := h
 have h1 := h.all hb1
 obtain ⟨W, hW⟩ : ∃ W, w.alloc (.cells #[.string li, .string lc, .int .i64 lu, .int .i64 lk] 39) = W := ⟨_, rfl⟩
 rw [hW] at hb1 n1 h1
 have hq := h1.drew.askL_no hz hn
 obtain ⟨_, _, c0, _⟩ := h1.cells
 have c1 : W.cell? ⟨w.heap.size, 0, none⟩ = some (.string li) := by rw [cell_of_heap n1]; rfl
 obtain ⟨V1, V2, V3, V4, V5, e1, e2, e3, e4, e5, ⟨k1, k2, k3, k4, k5⟩, ⟨k6, k7⟩, ⟨k8, k9⟩, ⟨k10, k11⟩, _, kb1, kb5⟩ := boxed4 W.drew (.string ⟨#[]⟩) (.string ⟨#[]⟩) (.int .i64 0) (.int .i64 0) (.string ⟨#[]⟩) (.string ⟨#[]⟩) (.int .i64 0) (.int .i64 0) 39
 have zd : W.drew.heap.size = W.heap.size := rfl
 rw [zd] at e2 e3 e4 e5 k1 k2 k3 k4 k5 k6 k7 k8 k9 k10 k11
 have hbW : Below w.heap.size w V1 := hb1.trans (((Below.refl _ W).drew.trans (kb1.mono (Nat.le_refl _))).mono hb1.size)
 have hq1 := (h.all hbW).askL_no hz hn
 (try simp only at hq1)
 obtain ⟨_, _, c2, _⟩ := (h.all hbW).cells
 have c3 : V1.cell? ⟨w.heap.size, 0, none⟩ = some (.string li) := (kb1.cell (p := ⟨w.heap.size, 0, none⟩) (cell_lt c1)).trans c1
 have hbV : Below w.heap.size w V5 := hb1.trans (((Below.refl _ W).drew.trans (kb5.mono (Nat.le_refl _))).mono hb1.size)
 have n3 : V5.heap[w.heap.size]? = some (.cells #[.string li, .string lc, .int .i64 lu, .int .i64 lk] 39 (0, 0)) := (kb5.block _ (Array.getElem?_eq_some_iff.1 n1).1).trans n1
 have h3 := h.all hbV
 clear kb1 kb5 hbW h1 hb1 n1 zd
 have hg := h3.drew.askG_yes hz' hy hyg
 obtain ⟨⟨yc, yp⟩, ys⟩ := y
 simp only at hg
 obtain ⟨f0, _, _, _⟩ := h3.drew.cells
 have n3d : V5.drew.heap[w.heap.size]? = some (.cells #[.string li, .string lc, .int .i64 lu, .int .i64 lk] 39 (0, 0)) := n3
 have f1 : V5.drew.cell? ⟨w.heap.size, 1, none⟩ = some (.string lc) := by rw [cell_of_heap n3d]; rfl
 obtain ⟨U1, U2, U3, g1, g2, g3, ⟨j1, j2, j3⟩, ⟨j4, j5⟩, _, jb1, jb2, jb3⟩ := boxed2 V5.drew (.string ⟨#[]⟩) (.int .i64 0) (.string yc) (.int .i64 yp) 37
 have zd : V5.drew.heap.size = V5.heap.size := rfl
 rw [zd] at g2 g3 j1 j2 j3 j4 j5
 have hbU1 : Below w.heap.size w U1 := hbV.drew.trans (jb1.mono hbV.size)
 have hbU : Below w.heap.size w U3 := hbV.drew.trans (jb3.mono hbV.size)
 have hg1 := (h.all hbU1).askG_yes hz' hy hyg
 (try simp only at hg1)
 obtain ⟨f2, _, _, _⟩ := (h.all hbU1).cells
 have f3 : U1.cell? ⟨w.heap.size, 1, none⟩ = some (.string lc) := (jb1.cell (p := ⟨w.heap.size, 1, none⟩) (cell_lt f1)).trans f1
 have n4 : U3.heap[w.heap.size]? = some (.cells #[.string li, .string lc, .int .i64 lu, .int .i64 lk] 39 (0, 0)) := (jb3.block _ (Array.getElem?_eq_some_iff.1 n3d).1).trans n3d
 have h4 := h.all hbU
 have hm := h4.L
 obtain ⟨ln, hln⟩ : ∃ ln, (b.2.1.map entL).length = ln := ⟨_, rfl⟩
 obtain ⟨_, _, f4, _⟩ := h4.cells
 have hl60 : ln < 60 := by rw [← hln]; simpa using hf
 obtain ⟨⟨a1, a2, a3, a4, a5⟩, ⟨a6, a7, a8, a9⟩, d1, d2, d3, d4, d5, d6, d7, d8, d9, d10⟩ := h.apart
 have hpL := ((insC_perm nameL b.2.1 ((li, lc, lu, lk), 0)).map entL).symm
 have hpH := ((insC_perm nameL b.2.1 ((li, lc, lu, lk), 0)).map entH).symm
 have E1 : EntSt Tryz.prog 9 89 U3.drew x.l (.string li) (.agg #[.string li, .string lc, .int .i64 lu, .int .i64 lk]) ((insC nameL b.2.1 ((li, lc, lu, lk), 0)).map entL) :=
  EntSt.new Tryz.keyedS Tryz.underlying89 (keyS hz) (h4.L.of_block (w' := U3.drew) rfl) Tryz.zeroValue39 (fun v hv => by obtain ⟨y, hy, e, _⟩ := mem_entL hv; exact hn y hy e) _ hpL
 have E2 : ∀ V, MapL Tryz.prog 9 V x.h (b.2.1.map entH) → EntSt Tryz.prog 9 90 V x.h (.string li) (.int .i64 0) ((insC nameL b.2.1 ((li, lc, lu, lk), 0)).map entH) := fun V hV =>
  EntSt.new Tryz.keyedS Tryz.underlying90 (keyS hz) hV Tryz.zeroValue3 (fun v hv => by obtain ⟨y, hy, e, _⟩ := mem_entH hv; exact hn y hy e) _ hpH
 obtain ⟨st, z, w2, w3, st', z', w4, w5, r1, r2, r3, r4, r5, r6, r7, r8⟩ := two_ents E1 (h4.H.of_block (w' := U3.drew) rfl) E2 d8
 have n4d : U3.drew.heap[w.heap.size]? = some (.cells #[.string li, .string lc, .int .i64 lu, .int .i64 lk] 39 (0, 0)) := n4
 have nq : w.heap.size ≠ x.l ∧ w.heap.size ≠ x.h := by have := h.lts; omega
 obtain ⟨o2, o3, o4, o5⟩ := r7 _ nq.1 nq.2
 obtain ⟨p2, p3, p4, p5⟩ := r7 _ a3 a4
 have mU30 : U3.drew.cell? ⟨w.heap.size, 0, none⟩ = some (.string li) := by rw [cell_of_heap n4d]; rfl
 have mU31 : U3.drew.cell? ⟨w.heap.size, 1, none⟩ = some (.string lc) := by rw [cell_of_heap n4d]; rfl
 have mU32 : U3.drew.cell? ⟨w.heap.size, 2, none⟩ = some (.int .i64 lu) := by rw [cell_of_heap n4d]; rfl
 have mU33 : U3.drew.cell? ⟨w.heap.size, 3, none⟩ = some (.int .i64 lk) := by rw [cell_of_heap n4d]; rfl
 have mw20 : w2.cell? ⟨w.heap.size, 0, none⟩ = some (.string li) := by rw [cell_of_heap (o2.trans n4d)]; rfl
 have mw21 : w2.cell? ⟨w.heap.size, 1, none⟩ = some (.string lc) := by rw [cell_of_heap (o2.trans n4d)]; rfl
 have mw22 : w2.cell? ⟨w.heap.size, 2, none⟩ = some (.int .i64 lu) := by rw [cell_of_heap (o2.trans n4d)]; rfl
 have mw23 : w2.cell? ⟨w.heap.size, 3, none⟩ = some (.int .i64 lk) := by rw [cell_of_heap (o2.trans n4d)]; rfl
 have mw30 : w3.cell? ⟨w.heap.size, 0, none⟩ = some (.string li) := by rw [cell_of_heap (o3.trans n4d)]; rfl
 have mw31 : w3.cell? ⟨w.heap.size, 1, none⟩ = some (.string lc) := by rw [cell_of_heap (o3.trans n4d)]; rfl
 have mw32 : w3.cell? ⟨w.heap.size, 2, none⟩ = some (.int .i64 lu) := by rw [cell_of_heap (o3.trans n4d)]; rfl
 have mw33 : w3.cell? ⟨w.heap.size, 3, none⟩ = some (.int .i64 lk) := by rw [cell_of_heap (o3.trans n4d)]; rfl
 have hd := h4.drew.blk
 have y0 : U3.drew.cell? ⟨x.p, 2, none⟩ = some (.map (some x.l)) := by rw [cell_of_heap hd]; rfl
 have y1 : U3.drew.cell? ⟨x.p, 3, none⟩ = some (.map (some x.h)) := by rw [cell_of_heap hd]; rfl
 have y2 : w2.cell? ⟨x.p, 3, none⟩ = some (.map (some x.h)) := by rw [cell_of_heap (p2.trans hd)]; rfl
 have y3 : w3.cell? ⟨x.p, 3, none⟩ = some (.map (some x.h)) := by rw [cell_of_heap (p3.trans hd)]; rfl
 have HF : Hid (IsBk w5 B x (lotB b (li, lc, lu, lk)) ∧ Off x.all w w5) := by
  refine ⟨⟨ps, bs, h4.drew.lot h0 r5 r6 fun c h1 h2 => (r7 c h1 h2).2.2.2⟩, ?_⟩
  have q1 : Off x.all w U3.drew := Off.of_below hbU.drew
  exact q1.trans (r8.mono (by simp [Bl.all]))
 clear hbV hbU hbU1 jb1 jb2 jb3 h3 h4 n3 n3d n4 n4d h zd hn hf r5 r6 r7 r8 E1 E2 hpL hpH hd p2 p3 p4 p5 o2 o3 o4 o5
 go_enter Tryz.func36, Tryz.ntmps36
 go_wp2
 go_region
 go_wp2
 go_region
 go_wp2_with (at_len; refine wpL_len rfl _ 89 rfl 9 39 Tryz.underlying89 x.l _ ln hln rfl hm ?_)
 go_region
 go_wp2
 go_ret
 exact ⟨rfl, HF.out⟩
theorem addGoods_any (g : Gd) (w : World) (s : Nat → Addr) (B : Nat) (x : Bl) (b : Bk) (h : IsBk w B x b) (hz : g.1.size ≤ maxLen) (hs : Bs w s) :
  Calls Tryz.prog 35 #[.pointer (some ⟨x.p, 0, none⟩), agG g] w fun e w' => e = .returned (errP s (goodsE b g)) ∧ IsBk w' B x (if goodsE b g = 0 then goodsB b g else b) ∧ Off x.all w w' := by
 rcases findI_cases nameG b.1 g.1 with ⟨e, hn⟩ | ⟨i, y, e, hi, hy⟩
 ·by_cases hf : 30 ≤ b.1.length
  ·have h0 : goodsE b g = 8 := by unfold goodsE; rw [e, if_neg (by decide), if_pos hf]
   rw [h0]
   exact addG_full g w s B x b h hz hs hn hf
  ·have h0 : goodsE b g = 0 := by unfold goodsE; rw [e, if_neg (by decide), if_neg hf]
   rw [if_pos h0, h0]
   exact addG_ok g w s B x b h hz hn (by omega) h0
 ·have h0 : goodsE b g = 7 := by unfold goodsE; rw [e, if_pos (by omega)]
  rw [h0]
  exact addG_exist g w s B x b h hz hs y (List.mem_of_getElem? hi) hy
theorem addLot_any (l : Lo) (w : World) (s : Nat → Addr) (B : Nat) (x : Bl) (b : Bk) (h : IsBk w B x b) (hz : l.1.size ≤ maxLen) (hz' : l.2.1.size ≤ maxLen) (hs : Bs w s) :
  Calls Tryz.prog 36 #[.pointer (some ⟨x.p, 0, none⟩), agQ l] w fun e w' => e = .returned (errP s (lotBE b l)) ∧ IsBk w' B x (if lotBE b l = 0 then lotB b l else b) ∧ Off x.all w w' := by
 rcases findI_cases nameL b.2.1 l.1 with ⟨e, hn⟩ | ⟨i, y, e, hi, hy⟩
 ·rcases findI_cases nameG b.1 l.2.1 with ⟨e', hng⟩ | ⟨j, z, e', hj, hz2⟩
  ·have h0 : lotBE b l = 6 := by unfold lotBE; rw [e, e', if_neg (by decide), if_pos (by decide)]
   rw [h0]
   exact addL_none l w s B x b h hz hz' hs hn hng
  ·by_cases hf : 60 ≤ b.2.1.length
   ·have h0 : lotBE b l = 8 := by unfold lotBE; rw [e, e', if_neg (by decide), if_neg (by omega), if_pos hf]
    rw [h0]
    exact addL_full l w s B x b h hz hz' hs hn z (List.mem_of_getElem? hj) hz2 hf
   ·have h0 : lotBE b l = 0 := by unfold lotBE; rw [e, e', if_neg (by decide), if_neg (by omega), if_neg hf]
    rw [if_pos h0, h0]
    exact addL_ok l w s B x b h hz hz' hn z (List.mem_of_getElem? hj) hz2 (by omega) h0
 ·have h0 : lotBE b l = 7 := by unfold lotBE; rw [e, if_pos (by omega)]
  rw [h0]
  exact addL_exist l w s B x b h hz hz' hs y (List.mem_of_getElem? hi) hy
end Go.Proofs.YtppodkkefegbkaaGreatDoor
namespace Go.Proofs.YtppodkkefegbkaaGreatDoor
open Go.RowKit Go.Lib Go.Sort Go.ChangeMaps
open Go.Maps (Keyed)
structure Tw (w W : World) (B : Nat) (x : Bl) (ps bs : Nat) (b : Bk) (e : En) (lb : Nat) (l : Lo) : Prop where
 below : Below w.heap.size w W
 book : BkAt W B x ps bs b
 ent : BlkE W w.heap.size e
 lot : W.heap[lb]? = some (.cells #[.string l.1, .string l.2.1, .int .i64 l.2.2.1, .int .i64 l.2.2.2] 39 (0, 0))
 lbn : w.heap.size ≤ lb
variable {w W W' : World} {B : Nat} {x : Bl} {ps bs : Nat} {b : Bk} {e : En} {lb : Nat} {l : Lo}
theorem Tw.go (h : Tw w W B x ps bs b e lb l) (hb : Below W.heap.size W W') : Tw w W' B x ps bs b e lb l where
 below := h.below.trans (hb.mono h.below.size)
 book := h.book.all hb
 ent := h.ent.below hb
 lot := (hb.block lb (Array.getElem?_eq_some_iff.1 h.lot).1).trans h.lot
 lbn := h.lbn
theorem Tw.drew (h : Tw w W B x ps bs b e lb l) : Tw w W.drew B x ps bs b e lb l := h.go (Below.refl _ _).drew
theorem Tw.code (h : Tw w W B x ps bs b e lb l) : W.cell? ⟨lb, 1, none⟩ = some (.string l.2.1) := by rw [cell_of_heap h.lot]; rfl
theorem Tw.fin_ (h : Tw w W B x ps bs b e lb l) : IsBk W B x b ∧ Off x.all w W := ⟨⟨ps, bs, h.book⟩, Off.of_below h.below⟩
theorem BkAt.lookH (h : BkAt W B x ps bs b) {c : ByteArray} (hc : c.size ≤ maxLen) {y : Lh} (hy : y ∈ b.2.1) (hn : nameL y = c) : (Instr.lookup 90 (.map (some x.h)) (.string c) false).run Tryz.prog W = .ok (.int .i64 y.2) W :=
 h.H.look_hit Tryz.keyedS Tryz.underlying90 (keyS hc) (List.mem_map.2 ⟨y, hy, by unfold entH; rw [← hn]; rfl⟩)
theorem BkAt.lookU (h : BkAt W B x ps bs b) {c : ByteArray} (hc : c.size ≤ maxLen) {y : Gs} (hy : y ∈ b.1) (hn : nameG y = c) : (Instr.lookup 88 (.map (some x.u)) (.string c) false).run Tryz.prog W = .ok (.agg #[.int .i64 y.2.1, .int .i64 y.2.2.1, .int .i64 y.2.2.2.1, .int .i64 y.2.2.2.2]) W :=
 h.U.look_hit Tryz.keyedS Tryz.underlying88 (keyS hc) (List.mem_map.2 ⟨y, hy, by unfold entU; rw [← hn]; rfl⟩)
theorem set_perms {α : Type} (f : α → Ent) {m : List α} {i : Nat} {y z : α} (hy : m[i]? = some y) : (m.map f).Perm (f y :: (m.eraseIdx i).map f) ∧ (f z :: (m.eraseIdx i).map f).Perm ((m.set i z).map f) := by
 have hi := (List.getElem?_eq_some_iff.1 hy).1
 have h1 := (set_perm m i hi y).map f
 have e : m.set i y = m := by
  obtain ⟨_, e⟩ := List.getElem?_eq_some_iff.1 hy
  rw [← e]; exact List.set_getElem_self hi
 rw [e] at h1
 exact ⟨h1, ((set_perm m i hi z).map f).symm⟩
theorem NewSt.later {w0 w1 w2 : World} {p' b' : Nat} {m : List Ln} (h : NewSt w0 w1 p' b' m) (hb : Below w1.heap.size w1 w2) : NewSt w0 w2 p' b' m where
 st := h.st.all hb
 blk := (hb.block p' h.st.lt.1).trans h.blk
 lp := h.lp
 lb := h.lb
 below := h.below.trans (hb.mono h.below.size)
theorem BkAt.away (h : BkAt W B x ps bs b) {c : Nat} {d : Array Value} {T : TypeId} {f : Nat × Nat} (hc : W.heap[c]? = some (.cells d T f)) (hT : T ≠ 92) : c ≠ x.p ∧ c ≠ x.h ∧ c ≠ x.u := by
 refine ⟨fun e9 => ?_, fun e9 => ?_, fun e9 => ?_⟩
 ·rw [e9, h.blk] at hc
  injection hc with hc
  injection hc with _ h2 _
  exact hT h2.symm
 ·obtain ⟨es, ck, hb, _⟩ := h.H
  rw [e9, hb] at hc
  cases hc
 ·obtain ⟨es, ck, hb, _⟩ := h.U
  rw [e9, hb] at hc
  cases hc
theorem Tw.last (h : Tw w W B x ps bs b e lb l) (h00 : BkAt w B x ps bs b) {w0 : World} {p' b' : Nat} (hn : NewSt w0 W p' b' (stkL e b.2.2)) (hw0 : w.heap.size ≤ w0.heap.size) (hz : SzE e) {k i : Nat} {y : Lh} {g : Gs} (hk : b.2.1[k]? = some y) (hid : nameL y = e.2.2.1.1) (hg : b.1[i]? = some g) (hgn : nameG g = y.1.2.1) (hcz : y.1.2.1.size ≤ maxLen) (hn1 : 0 ≤ e.2.2.2.2.2) (h0 : pieceE b e y g = 0) :
  ∃ (V : World) (st : Nat) (z : Value) (w2 w3 : World) (st' : Nat) (z' : Value) (w4 w5 : World), W.drew.setCell ⟨x.p, 4, none⟩ (.pointer (some ⟨p', 0, none⟩)) = V ∧
   (Instr.mapEntry 90 (.map (some x.h)) (.string e.2.2.1.1)).run Tryz.prog V = .ok (.tuple #[z, .int .i64 st]) w2 ∧ (Instr.entryStore 90 (.map (some x.h)) (.int .i64 st) (.int .i64 (heldN e.1 y.2 e.2.2.2.2.2))).run Tryz.prog w2 = .ok () w3 ∧
   (Instr.mapEntry 88 (.map (some x.u)) (.string y.1.2.1)).run Tryz.prog w3 = .ok (.tuple #[z', .int .i64 st']) w4 ∧ (Instr.entryStore 88 (.map (some x.u)) (.int .i64 st') (.agg #[.int .i64 (addSu e.1 g.2 e.2.2.2.2.2).1, .int .i64 (addSu e.1 g.2 e.2.2.2.2.2).2.1, .int .i64 (addSu e.1 g.2 e.2.2.2.2.2).2.2.1, .int .i64 (addSu e.1 g.2 e.2.2.2.2.2).2.2.2])).run Tryz.prog w4 = .ok () w5 ∧
   (∀ c, c ≠ x.p → c ≠ x.h → c ≠ x.u → V.heap[c]? = W.heap[c]? ∧ w2.heap[c]? = W.heap[c]? ∧ w3.heap[c]? = W.heap[c]? ∧ w4.heap[c]? = W.heap[c]?) ∧ (∀ U, U = V ∨ U = w2 ∨ U = w3 ∨ U = w4 → U.cell? ⟨x.p, 1, none⟩ = some (.map (some x.u)) ∧ U.cell? ⟨x.p, 3, none⟩ = some (.map (some x.h))) ∧ IsBk w5 B x (pieceB b e k y i g) ∧ Off x.all w w5 := by
 have hd := h.drew
 have hnd : NewSt w0 W.drew p' b' (stkL e b.2.2) := hn.later (Below.refl _ _).drew
 obtain ⟨⟨a1, a2, a3, a4, a5⟩, ⟨a6, a7, a8, a9⟩, d1, d2, d3, d4, d5, d6, d7, d8, d9, d10⟩ := hd.book.apart
 obtain ⟨l1, l2, l3, l4, l5, l6, l7⟩ := h00.lts
 have lp := hn.lp
 have lb' := hn.lb
 have hV : (W.drew.setCell ⟨x.p, 4, none⟩ (.pointer (some ⟨p', 0, none⟩))).heap[x.p]? = some (.cells #[.map (some x.g), .map (some x.u), .map (some x.l), .map (some x.h), .pointer (some ⟨p', 0, none⟩)] 92 (0, 0)) := set_cell hd.book.blk 4 _ rfl
 have hVo : ∀ c, c ≠ x.p → (W.drew.setCell ⟨x.p, 4, none⟩ (.pointer (some ⟨p', 0, none⟩))).heap[c]? = W.drew.heap[c]? := fun c hc => Below.heap_setCell W.drew ⟨x.p, 4, none⟩ _ c hc
 have hoff : Off x.all w (W.drew.setCell ⟨x.p, 4, none⟩ (.pointer (some ⟨p', 0, none⟩))) := (Off.of_below hd.below).set (by simp [Bl.all]) _
 generalize W.drew.setCell ⟨x.p, 4, none⟩ (.pointer (some ⟨p', 0, none⟩)) = V at *
 obtain ⟨q1, q2⟩ := set_perms entH (z := (y.1, heldN e.1 y.2 e.2.2.2.2.2)) hk
 obtain ⟨q3, q4⟩ := set_perms entU (z := (g.1, addSu e.1 g.2 e.2.2.2.2.2)) hg
 have kid : entH y = (.string e.2.2.1.1, .int .i64 y.2) := by unfold entH; rw [← hid]; rfl
 have kid2 : entH (y.1, heldN e.1 y.2 e.2.2.2.2.2) = (.string e.2.2.1.1, .int .i64 (heldN e.1 y.2 e.2.2.2.2.2)) := by unfold entH; rw [← hid]; rfl
 have kg : entU g = (.string y.1.2.1, agU g.2) := by unfold entU; rw [← hgn]; rfl
 have kg2 : entU (g.1, addSu e.1 g.2 e.2.2.2.2.2) = (.string y.1.2.1, agU (addSu e.1 g.2 e.2.2.2.2.2)) := by unfold entU; rw [← hgn]; rfl
 rw [kid] at q1
 rw [kid2] at q2
 rw [kg] at q3
 rw [kg2] at q4
 have E1 : EntSt Tryz.prog 9 90 V x.h (.string e.2.2.1.1) (.int .i64 (heldN e.1 y.2 e.2.2.2.2.2)) ((b.2.1.set k (y.1, heldN e.1 y.2 e.2.2.2.2.2)).map entH) :=
  EntSt.old Tryz.keyedS Tryz.underlying90 (keyS hz.li) (hd.book.H.of_block (hVo _ a4.symm)) q1 _ q2
 have E2 : ∀ V', MapL Tryz.prog 9 V' x.u (b.1.map entU) → EntSt Tryz.prog 9 88 V' x.u (.string y.1.2.1) (agU (addSu e.1 g.2 e.2.2.2.2.2)) ((b.1.set i (g.1, addSu e.1 g.2 e.2.2.2.2.2)).map entU) := fun V' hV' =>
  EntSt.old Tryz.keyedS Tryz.underlying88 (keyS hcz) hV' q3 _ q4
 obtain ⟨st, z, w2, w3, st', z', w4, w5, r1, r2, r3, r4, r5, r6, r7, r8⟩ := two_ents E1 (hd.book.U.of_block (hVo _ a2.symm)) E2 d6.symm
 refine ⟨V, st, z, w2, w3, st', z', w4, w5, rfl, r1, r2, r3, r4, fun c c1 c2 c3 => ⟨hVo c c1, (r7 c c2 c3).1.trans (hVo c c1), (r7 c c2 c3).2.1.trans (hVo c c1), (r7 c c2 c3).2.2.1.trans (hVo c c1)⟩, ?_, ⟨p', b', ?_⟩, hoff.trans (r8.mono (by simp [Bl.all]))⟩
 ·have key : ∀ U : World, U.heap[x.p]? = V.heap[x.p]? → U.cell? ⟨x.p, 1, none⟩ = some (.map (some x.u)) ∧ U.cell? ⟨x.p, 3, none⟩ = some (.map (some x.h)) := fun U hU => ⟨by rw [cell_of_heap (hU.trans hV)]; rfl, by rw [cell_of_heap (hU.trans hV)]; rfl⟩
  rintro U (rfl | rfl | rfl | rfl)
  ·exact key _ rfl
  ·exact key _ (r7 _ a4 a2).1
  ·exact key _ (r7 _ a4 a2).2.1
  ·exact key _ (r7 _ a4 a2).2.2.1
 have keep : ∀ c, c ≠ x.p → c ≠ x.h → c ≠ x.u → w5.heap[c]? = W.drew.heap[c]? := fun c c1 c2 c3 => (r7 c c2 c3).2.2.2.trans (hVo c c1)
 have eL : (b.2.1.set k (y.1, heldN e.1 y.2 e.2.2.2.2.2)).map entL = b.2.1.map entL := set_map (f := entL) hk rfl
 have eG : (b.1.set i (g.1, addSu e.1 g.2 e.2.2.2.2.2)).map entG = b.1.map entG := set_map (f := entG) hg rfl
 have kp : w5.heap[p']? = W.drew.heap[p']? := keep p' (by omega) (by omega) (by omega)
 have kb : w5.heap[b']? = W.drew.heap[b']? := keep b' (by omega) (by omega) (by omega)
 exact {
  blk := ((r7 _ a4 a2).2.2.2).trans hV
  G := by show MapL _ _ _ _ ((b.1.set i (g.1, addSu e.1 g.2 e.2.2.2.2.2)).map entG); rw [eG]; exact hd.book.G.of_block (keep _ a1.symm d3 d1)
  U := r6
  L := by show MapL _ _ _ _ ((b.2.1.set k (y.1, heldN e.1 y.2 e.2.2.2.2.2)).map entL); rw [eL]; exact hd.book.L.of_block (keep _ a3.symm d8 d5.symm)
  H := r5
  sblk := kp.trans hnd.blk
  S := hnd.st.of_blocks kp kb
  ok := h.book.ok.piece hn1 hk hid hg h0
  bp := h.book.bp
  bg := h.book.bg
  gu := h.book.gu
  ul := h.book.ul
  lh := h.book.lh
  hs := by omega
  bs := by have := h00.bp; omega }
end Go.Proofs.YtppodkkefegbkaaGreatDoor
namespace Go.Proofs.YtppodkkefegbkaaGreatDoor
open Go.RowKit Go.Lib Go.Sort
theorem turn_none (w : World) (s : Nat → Addr) (B : Nat) (x : Bl) (b : Bk) (e : En) (h : IsBk w B x b) (hz : SzE e) (hs : Bs w s) (hn : ∀ y ∈ b.2.1, nameL y ≠ e.2.2.1.1) :
  Calls Tryz.prog 37 #[.pointer (some ⟨x.p, 0, none⟩), agE e] w fun r w' => r = .returned (errP s (6)) ∧ IsBk w' B x b ∧ Off x.all w w' := by
 obtain ⟨ps, bs, h⟩ := h
 have hE := BlkE.new w e
 have hb1 : Below w.heap.size w (w.alloc (celE e)) := (Below.refl _ w).alloc (Nat.le_refl _) _
 obtain ⟨W, hW⟩ : ∃ W, w.alloc (celE e) = W := ⟨_, rfl⟩
 rw [hW] at hE hb1
 have hB1 := h.all hb1
 have hq := hB1.askL_no hz.li hn
 obtain ⟨V1, V2, V3, V4, V5, e1, e2, e3, e4, e5, ⟨k1, k2, k3, k4, k5⟩, ⟨k6, k7⟩, ⟨k8, k9⟩, ⟨k10, k11⟩, n5, kb1, kb5⟩ := boxed4 W (.string ⟨#[]⟩) (.string ⟨#[]⟩) (.int .i64 0) (.int .i64 0) (.string ⟨#[]⟩) (.string ⟨#[]⟩) (.int .i64 0) (.int .i64 0) 39
 have hbV : Below w.heap.size w V5 := hb1.trans (kb5.mono hb1.size)
 have hsV : V5.cell? ⟨1, 0, none⟩ = some (err (s 5)) := (hs.below hbV).none_
 have HF : Hid (IsBk V5 B x b ∧ Off x.all w V5) := ⟨⟨ps, bs, h.all hbV⟩, Off.of_below hbV⟩
 have c3 := hE.at.c3
 obtain ⟨_, _, p2, _⟩ := hB1.cells
 clear kb1 kb5 hbV hb1 hB1 hE h hs hn n5 hz
 obtain ⟨ak, ⟨agc, agp⟩, ⟨ali, alc, alu, alk⟩, ⟨afz, afr, afb⟩, ⟨atz, atr, atb⟩, an⟩ := e
 unfold agE celE at *
 simp only at *
 go_enter Tryz.func37, Tryz.ntmps37
 go_wp2_with (at_lookup; refine wpL_ask rfl _ _ 89 rfl x.l _ _ rfl rfl hq ?_)
 go_ret
 exact ⟨rfl, HF.out⟩
theorem turn_stk (w : World) (s : Nat → Addr) (B : Nat) (x : Bl) (b : Bk) (e : En) (h : IsBk w B x b) (hz : SzE e) (hs : Bs w s) (k i : Nat) (l : Lh) (g : Gs) (hl : b.2.1[k]? = some l) (hid : nameL l = e.2.2.1.1) (hg : b.1[i]? = some g) (hgn : nameG g = l.1.2.1) (he : entErr e = 0) (h1 : e.1 ≠ kGoods) (h2 : e.1 ≠ kLot) (hc : stkE e b.2.2 ≠ 0) :
  Calls Tryz.prog 37 #[.pointer (some ⟨x.p, 0, none⟩), agE e] w fun r w' => r = .returned (errP s (stkE e b.2.2)) ∧ IsBk w' B x b ∧ Off x.all w w' := by
 obtain ⟨ps, bs, h⟩ := h
 have hE := BlkE.new w e
 have hb1 : Below w.heap.size w (w.alloc (celE e)) := (Below.refl _ w).alloc (Nat.le_refl _) _
 obtain ⟨W, hW⟩ : ∃ W, w.alloc (celE e) = W := ⟨_, rfl⟩
 rw [hW] at hE hb1
 have hB1 := h.all hb1
 have hlm := List.mem_of_getElem? hl
 have hgm := List.mem_of_getElem? hg
 have hq := hB1.askL_yes hz.li hlm hid
 obtain ⟨V1, V2, V3, V4, V5, e1, e2, e3, e4, e5, ⟨k1, k2, k3, k4, k5⟩, ⟨k6, k7⟩, ⟨k8, k9⟩, ⟨k10, k11⟩, n5, kb1, kb5⟩ := boxed4 W (.string ⟨#[]⟩) (.string ⟨#[]⟩) (.int .i64 0) (.int .i64 0) (.string l.1.1) (.string l.1.2.1) (.int .i64 l.1.2.2.1) (.int .i64 l.1.2.2.2) 39
 have hbV : Below w.heap.size w V5 := hb1.trans (kb5.mono hb1.size)
 have hT : Tw w V5.drew B x ps bs b e W.heap.size l.1 := Tw.drew ⟨hbV, h.all hbV, hE.below kb5, n5, hb1.size⟩
 have hC1 := stockAfter_any V5.drew s ps bs b.2.2 e hT.book.S hz (hs.below hT.below).five he h1 h2
 have hnum := piece_num he h1 h2
 have hsum := h.ok.wf.sums g hgm
 have hheld := h.ok.wf.held l hlm
 have hheld2 : l.2 ≤ 1099511627776 := Int.le_trans hheld.2 (h.ok.wf.st.most _)
 rw [errP_pos s hc] at hC1 ⊢
 generalize s (stkE e b.2.2 - 1) = ad at *
 have HSs : Hid (∀ W, Below w.heap.size w W → Bs W s) := fun W hb => hs.below hb
 have c3 := hE.at.c3
 obtain ⟨_, _, p2, _⟩ := hB1.cells
 have p4 := hT.book.cells.2.2.2.2.1
 obtain ⟨t0, t1, t2, t3, t4, t5, t6, t7, t8, t9, t10, t11, t12, t13⟩ := hT.ent.at; (try simp only at t0 t1 t2 t3 t4 t5 t6 t7 t8 t9 t10 t11 t12 t13)
 have HT : Hid (Tw _ _ _ _ _ _ _ _ _ _) := hT
 have HC1 : Hid (Calls Tryz.prog 68 _ _ _) := hC1
 have HV : Hid (w.heap.size ≤ V5.drew.heap.size) := hbV.size
 have _u := hgn
 clear _u
 clear kb1 kb5 hbV hb1 hB1 hE h hs hz hT hC1 hnum hsum hheld hheld2 hlm hgm hl hg hid hgn he h1 h2 hc n5
 obtain ⟨ak, ⟨agc, agp⟩, ⟨ali, alc, alu, alk⟩, ⟨afz, afr, afb⟩, ⟨atz, atr, atb⟩, an⟩ := e
 obtain ⟨⟨lli, llc, llu, llk⟩, lh⟩ := l
 unfold agE celE at *
 simp only at *
 go_enter Tryz.func37, Tryz.ntmps37
 go_wp2_with (at_lookup; refine wpL_ask rfl _ _ 89 rfl x.l _ _ rfl rfl hq ?_)
 go_region_held3 (fun w' => w'.cell? ⟨x.p, 4, none⟩ = some (.pointer (some ⟨ps, 0, none⟩)) ∧ w'.cell? ⟨w.heap.size, 0, none⟩ = some (.string ak) ∧ w'.cell? ⟨w.heap.size, 1, none⟩ = some (.string agc) ∧ w'.cell? ⟨w.heap.size, 2, none⟩ = some (.int .i64 agp) ∧ w'.cell? ⟨w.heap.size, 3, none⟩ = some (.string ali) ∧ w'.cell? ⟨w.heap.size, 4, none⟩ = some (.string alc) ∧ w'.cell? ⟨w.heap.size, 5, none⟩ = some (.int .i64 alu) ∧ w'.cell? ⟨w.heap.size, 6, none⟩ = some (.int .i64 alk) ∧ w'.cell? ⟨w.heap.size, 7, none⟩ = some (.string afz) ∧ w'.cell? ⟨w.heap.size, 8, none⟩ = some (.int .i64 afr) ∧ w'.cell? ⟨w.heap.size, 9, none⟩ = some (.int .i64 afb) ∧ w'.cell? ⟨w.heap.size, 10, none⟩ = some (.string atz) ∧ w'.cell? ⟨w.heap.size, 11, none⟩ = some (.int .i64 atr) ∧ w'.cell? ⟨w.heap.size, 12, none⟩ = some (.int .i64 atb) ∧ w'.cell? ⟨w.heap.size, 13, none⟩ = some (.int .i64 an)) (go_keep) (first | (go_at_call 68; refine HC1.out.mono ?_; rintro r w2 ⟨p', b', rfl, hns⟩; have h2 := HT.out.go hns.below; have p4b := h2.book.cells.2.2.2.2.1; obtain ⟨v0, v1, v2, v3, v4, v5, v6, v7, v8, v9, v10, v11, v12, v13⟩ := h2.ent.at; (try simp only at v0 v1 v2 v3 v4 v5 v6 v7 v8 v9 v10 v11 v12 v13); have HN2 : Hid (NewSt _ _ _ _ _) := hns; have HT2 : Hid (Tw _ _ _ _ _ _ _ _ _ _) := h2; clear hns h2))
 go_wp2
 go_ret
 exact ⟨rfl, HT2.out.fin_⟩
theorem turn_neg (w : World) (s : Nat → Addr) (B : Nat) (x : Bl) (b : Bk) (e : En) (h : IsBk w B x b) (hz : SzE e) (hs : Bs w s) (k i : Nat) (l : Lh) (g : Gs) (hl : b.2.1[k]? = some l) (hid : nameL l = e.2.2.1.1) (hg : b.1[i]? = some g) (hgn : nameG g = l.1.2.1) (he : entErr e = 0) (h1 : e.1 ≠ kGoods) (h2 : e.1 ≠ kLot) (hc : stkE e b.2.2 = 0) (hh : heldN e.1 l.2 e.2.2.2.2.2 < 0) :
  Calls Tryz.prog 37 #[.pointer (some ⟨x.p, 0, none⟩), agE e] w fun r w' => r = .returned (errP s (9)) ∧ IsBk w' B x b ∧ Off x.all w w' := by
 obtain ⟨ps, bs, h⟩ := h
 have hE := BlkE.new w e
 have hb1 : Below w.heap.size w (w.alloc (celE e)) := (Below.refl _ w).alloc (Nat.le_refl _) _
 obtain ⟨W, hW⟩ : ∃ W, w.alloc (celE e) = W := ⟨_, rfl⟩
 rw [hW] at hE hb1
 have hB1 := h.all hb1
 have hlm := List.mem_of_getElem? hl
 have hgm := List.mem_of_getElem? hg
 have hq := hB1.askL_yes hz.li hlm hid
 obtain ⟨V1, V2, V3, V4, V5, e1, e2, e3, e4, e5, ⟨k1, k2, k3, k4, k5⟩, ⟨k6, k7⟩, ⟨k8, k9⟩, ⟨k10, k11⟩, n5, kb1, kb5⟩ := boxed4 W (.string ⟨#[]⟩) (.string ⟨#[]⟩) (.int .i64 0) (.int .i64 0) (.string l.1.1) (.string l.1.2.1) (.int .i64 l.1.2.2.1) (.int .i64 l.1.2.2.2) 39
 have hbV : Below w.heap.size w V5 := hb1.trans (kb5.mono hb1.size)
 have hT : Tw w V5.drew B x ps bs b e W.heap.size l.1 := Tw.drew ⟨hbV, h.all hbV, hE.below kb5, n5, hb1.size⟩
 have hC1 := stockAfter_any V5.drew s ps bs b.2.2 e hT.book.S hz (hs.below hT.below).five he h1 h2
 have hnum := piece_num he h1 h2
 have hsum := h.ok.wf.sums g hgm
 have hheld := h.ok.wf.held l hlm
 have hheld2 : l.2 ≤ 1099511627776 := Int.le_trans hheld.2 (h.ok.wf.st.most _)
 rw [hc, errP_zero] at hC1
 have HH : Hid (∀ W, Calls Tryz.prog 69 #[.int .i64 l.2, agE e] W fun r w' => r = .returned (.int .i64 (heldN e.1 l.2 e.2.2.2.2.2)) ∧ Below W.heap.size W w') := fun W => heldAfter_any l.2 e W ⟨hheld.1, hheld2⟩ hnum
 have HLH : Hid (∀ W, Tw w W B x ps bs b e W.heap.size l.1 ∨ BkAt W B x ps bs b → (Instr.lookup 90 (.map (some x.h)) (.string e.2.2.1.1) false).run Tryz.prog W = .ok (.int .i64 l.2) W) := fun W hW => (hW.elim Tw.book id).lookH hz.li hlm hid
 have HSs : Hid (∀ W, Below w.heap.size w W → Bs W s) := fun W hb => hs.below hb
 have c3 := hE.at.c3
 obtain ⟨_, _, p2, _⟩ := hB1.cells
 have p4 := hT.book.cells.2.2.2.2.1
 obtain ⟨t0, t1, t2, t3, t4, t5, t6, t7, t8, t9, t10, t11, t12, t13⟩ := hT.ent.at; (try simp only at t0 t1 t2 t3 t4 t5 t6 t7 t8 t9 t10 t11 t12 t13)
 have HT : Hid (Tw _ _ _ _ _ _ _ _ _ _) := hT
 have HC1 : Hid (Calls Tryz.prog 68 _ _ _) := hC1
 have HV : Hid (w.heap.size ≤ V5.drew.heap.size) := hbV.size
 generalize hHN : heldN e.1 l.2 e.2.2.2.2.2 = hd at *
 have _u := hgn
 clear _u
 clear kb1 kb5 hbV hb1 hB1 hE h hs hz hT hC1 hnum hsum hheld hheld2 hlm hgm hl hg hid hgn he h1 h2 hc n5
 obtain ⟨ak, ⟨agc, agp⟩, ⟨ali, alc, alu, alk⟩, ⟨afz, afr, afb⟩, ⟨atz, atr, atb⟩, an⟩ := e
 obtain ⟨⟨lli, llc, llu, llk⟩, lh⟩ := l
 unfold agE celE at *
 simp only at *
 go_enter Tryz.func37, Tryz.ntmps37
 go_wp2_with (at_lookup; refine wpL_ask rfl _ _ 89 rfl x.l _ _ rfl rfl hq ?_)
 go_region_held3 (fun w' => w'.cell? ⟨x.p, 4, none⟩ = some (.pointer (some ⟨ps, 0, none⟩)) ∧ w'.cell? ⟨w.heap.size, 0, none⟩ = some (.string ak) ∧ w'.cell? ⟨w.heap.size, 1, none⟩ = some (.string agc) ∧ w'.cell? ⟨w.heap.size, 2, none⟩ = some (.int .i64 agp) ∧ w'.cell? ⟨w.heap.size, 3, none⟩ = some (.string ali) ∧ w'.cell? ⟨w.heap.size, 4, none⟩ = some (.string alc) ∧ w'.cell? ⟨w.heap.size, 5, none⟩ = some (.int .i64 alu) ∧ w'.cell? ⟨w.heap.size, 6, none⟩ = some (.int .i64 alk) ∧ w'.cell? ⟨w.heap.size, 7, none⟩ = some (.string afz) ∧ w'.cell? ⟨w.heap.size, 8, none⟩ = some (.int .i64 afr) ∧ w'.cell? ⟨w.heap.size, 9, none⟩ = some (.int .i64 afb) ∧ w'.cell? ⟨w.heap.size, 10, none⟩ = some (.string atz) ∧ w'.cell? ⟨w.heap.size, 11, none⟩ = some (.int .i64 atr) ∧ w'.cell? ⟨w.heap.size, 12, none⟩ = some (.int .i64 atb) ∧ w'.cell? ⟨w.heap.size, 13, none⟩ = some (.int .i64 an)) (go_keep) (first | (go_at_call 68; refine HC1.out.mono ?_; rintro r w2 ⟨p', b', rfl, hns⟩; have h2 := HT.out.go hns.below; have p4b := h2.book.cells.2.2.2.2.1; obtain ⟨v0, v1, v2, v3, v4, v5, v6, v7, v8, v9, v10, v11, v12, v13⟩ := h2.ent.at; (try simp only at v0 v1 v2 v3 v4 v5 v6 v7 v8 v9 v10 v11 v12 v13); have HN2 : Hid (NewSt _ _ _ _ _) := hns; have HT2 : Hid (Tw _ _ _ _ _ _ _ _ _ _) := h2; clear hns h2))
 go_wp2
 have h2d := HT2.out.drew
 have p3 := h2d.book.cells.2.2.2.1
 have lh2 := HLH.out _ (Or.inr h2d.book)
 obtain ⟨u0, u1, u2, u3, u4, u5, u6, u7, u8, u9, u10, u11, u12, u13⟩ := h2d.ent.at; (try simp only at u0 u1 u2 u3 u4 u5 u6 u7 u8 u9 u10 u11 u12 u13)
 have H2d : Hid (Tw _ _ _ _ _ _ _ _ _ _) := h2d
 clear h2d
 go_region_held3 (fun w' => w'.cell? ⟨x.p, 3, none⟩ = some (.map (some x.h)) ∧ (Instr.lookup 90 (.map (some x.h)) (.string ali) false).run Tryz.prog w' = .ok (.int .i64 lh) w' ∧ w'.cell? ⟨w.heap.size, 0, none⟩ = some (.string ak) ∧ w'.cell? ⟨w.heap.size, 1, none⟩ = some (.string agc) ∧ w'.cell? ⟨w.heap.size, 2, none⟩ = some (.int .i64 agp) ∧ w'.cell? ⟨w.heap.size, 3, none⟩ = some (.string ali) ∧ w'.cell? ⟨w.heap.size, 4, none⟩ = some (.string alc) ∧ w'.cell? ⟨w.heap.size, 5, none⟩ = some (.int .i64 alu) ∧ w'.cell? ⟨w.heap.size, 6, none⟩ = some (.int .i64 alk) ∧ w'.cell? ⟨w.heap.size, 7, none⟩ = some (.string afz) ∧ w'.cell? ⟨w.heap.size, 8, none⟩ = some (.int .i64 afr) ∧ w'.cell? ⟨w.heap.size, 9, none⟩ = some (.int .i64 afb) ∧ w'.cell? ⟨w.heap.size, 10, none⟩ = some (.string atz) ∧ w'.cell? ⟨w.heap.size, 11, none⟩ = some (.int .i64 atr) ∧ w'.cell? ⟨w.heap.size, 12, none⟩ = some (.int .i64 atb) ∧ w'.cell? ⟨w.heap.size, 13, none⟩ = some (.int .i64 an)) (go_keep) (first | (go_at_call 69; refine (HH.out _).mono ?_; rintro r w3 ⟨rfl, hb3⟩; have HN3 : Hid (NewSt _ _ _ _ _) := (HN2.out.later (Below.refl _ _).drew).later hb3; have h3 := H2d.out.go hb3; have p3b := h3.book.cells.2.2.2.1; have lh3 := HLH.out _ (Or.inr h3.book); obtain ⟨y0, y1, y2, y3, y4, y5, y6, y7, y8, y9, y10, y11, y12, y13⟩ := h3.ent.at; (try simp only at y0 y1 y2 y3 y4 y5 y6 y7 y8 y9 y10 y11 y12 y13); have HT3 : Hid (Tw _ _ _ _ _ _ _ _ _ _) := h3; clear hb3 h3))
 have hs3 := (HSs.out _ HT3.out.below).five.short
 go_wp2
 go_ret
 exact ⟨rfl, HT3.out.fin_⟩
theorem turn_short (w : World) (s : Nat → Addr) (B : Nat) (x : Bl) (b : Bk) (e : En) (h : IsBk w B x b) (hz : SzE e) (hs : Bs w s) (k i : Nat) (l : Lh) (g : Gs) (hl : b.2.1[k]? = some l) (hid : nameL l = e.2.2.1.1) (hg : b.1[i]? = some g) (hgn : nameG g = l.1.2.1) (he : entErr e = 0) (h1 : e.1 ≠ kGoods) (h2 : e.1 ≠ kLot) (hc : stkE e b.2.2 = 0) (hh : 0 ≤ heldN e.1 l.2 e.2.2.2.2.2) (ho : ofL (stkL e b.2.2) e.2.2.1.1 < heldN e.1 l.2 e.2.2.2.2.2) :
  Calls Tryz.prog 37 #[.pointer (some ⟨x.p, 0, none⟩), agE e] w fun r w' => r = .returned (errP s (9)) ∧ IsBk w' B x b ∧ Off x.all w w' := by
 obtain ⟨ps, bs, h⟩ := h
 have hE := BlkE.new w e
 have hb1 : Below w.heap.size w (w.alloc (celE e)) := (Below.refl _ w).alloc (Nat.le_refl _) _
 obtain ⟨W, hW⟩ : ∃ W, w.alloc (celE e) = W := ⟨_, rfl⟩
 rw [hW] at hE hb1
 have hB1 := h.all hb1
 have hlm := List.mem_of_getElem? hl
 have hgm := List.mem_of_getElem? hg
 have hq := hB1.askL_yes hz.li hlm hid
 obtain ⟨V1, V2, V3, V4, V5, e1, e2, e3, e4, e5, ⟨k1, k2, k3, k4, k5⟩, ⟨k6, k7⟩, ⟨k8, k9⟩, ⟨k10, k11⟩, n5, kb1, kb5⟩ := boxed4 W (.string ⟨#[]⟩) (.string ⟨#[]⟩) (.int .i64 0) (.int .i64 0) (.string l.1.1) (.string l.1.2.1) (.int .i64 l.1.2.2.1) (.int .i64 l.1.2.2.2) 39
 have hbV : Below w.heap.size w V5 := hb1.trans (kb5.mono hb1.size)
 have hT : Tw w V5.drew B x ps bs b e W.heap.size l.1 := Tw.drew ⟨hbV, h.all hbV, hE.below kb5, n5, hb1.size⟩
 have hC1 := stockAfter_any V5.drew s ps bs b.2.2 e hT.book.S hz (hs.below hT.below).five he h1 h2
 have hnum := piece_num he h1 h2
 have hsum := h.ok.wf.sums g hgm
 have hheld := h.ok.wf.held l hlm
 have hheld2 : l.2 ≤ 1099511627776 := Int.le_trans hheld.2 (h.ok.wf.st.most _)
 rw [hc, errP_zero] at hC1
 have HH : Hid (∀ W, Calls Tryz.prog 69 #[.int .i64 l.2, agE e] W fun r w' => r = .returned (.int .i64 (heldN e.1 l.2 e.2.2.2.2.2)) ∧ Below W.heap.size W w') := fun W => heldAfter_any l.2 e W ⟨hheld.1, hheld2⟩ hnum
 have HLH : Hid (∀ W, Tw w W B x ps bs b e W.heap.size l.1 ∨ BkAt W B x ps bs b → (Instr.lookup 90 (.map (some x.h)) (.string e.2.2.1.1) false).run Tryz.prog W = .ok (.int .i64 l.2) W) := fun W hW => (hW.elim Tw.book id).lookH hz.li hlm hid
 have HO : Hid (∀ W p' b', IsStock W p' b' (stkL e b.2.2) → Calls Tryz.prog 70 #[.pointer (some ⟨p', 0, none⟩), .string e.2.2.1.1] W fun r w' => r = .returned (.int .i64 (ofL (stkL e b.2.2) e.2.2.1.1)) ∧ Below W.heap.size W w') := fun W p' b' hi => of_any e.2.2.1.1 W p' b' (stkL e b.2.2) hi
 have HSs : Hid (∀ W, Below w.heap.size w W → Bs W s) := fun W hb => hs.below hb
 have c3 := hE.at.c3
 obtain ⟨_, _, p2, _⟩ := hB1.cells
 have p4 := hT.book.cells.2.2.2.2.1
 obtain ⟨t0, t1, t2, t3, t4, t5, t6, t7, t8, t9, t10, t11, t12, t13⟩ := hT.ent.at; (try simp only at t0 t1 t2 t3 t4 t5 t6 t7 t8 t9 t10 t11 t12 t13)
 have HT : Hid (Tw _ _ _ _ _ _ _ _ _ _) := hT
 have HC1 : Hid (Calls Tryz.prog 68 _ _ _) := hC1
 have HV : Hid (w.heap.size ≤ V5.drew.heap.size) := hbV.size
 generalize hHN : heldN e.1 l.2 e.2.2.2.2.2 = hd at *
 generalize hON : ofL (stkL e b.2.2) e.2.2.1.1 = od at *
 have _u := hgn
 clear _u
 clear kb1 kb5 hbV hb1 hB1 hE h hs hz hT hC1 hnum hsum hheld hheld2 hlm hgm hl hg hid hgn he h1 h2 hc n5
 obtain ⟨ak, ⟨agc, agp⟩, ⟨ali, alc, alu, alk⟩, ⟨afz, afr, afb⟩, ⟨atz, atr, atb⟩, an⟩ := e
 obtain ⟨⟨lli, llc, llu, llk⟩, lh⟩ := l
 unfold agE celE at *
 simp only at *
 go_enter Tryz.func37, Tryz.ntmps37
 go_wp2_with (at_lookup; refine wpL_ask rfl _ _ 89 rfl x.l _ _ rfl rfl hq ?_)
 go_region_held3 (fun w' => w'.cell? ⟨x.p, 4, none⟩ = some (.pointer (some ⟨ps, 0, none⟩)) ∧ w'.cell? ⟨w.heap.size, 0, none⟩ = some (.string ak) ∧ w'.cell? ⟨w.heap.size, 1, none⟩ = some (.string agc) ∧ w'.cell? ⟨w.heap.size, 2, none⟩ = some (.int .i64 agp) ∧ w'.cell? ⟨w.heap.size, 3, none⟩ = some (.string ali) ∧ w'.cell? ⟨w.heap.size, 4, none⟩ = some (.string alc) ∧ w'.cell? ⟨w.heap.size, 5, none⟩ = some (.int .i64 alu) ∧ w'.cell? ⟨w.heap.size, 6, none⟩ = some (.int .i64 alk) ∧ w'.cell? ⟨w.heap.size, 7, none⟩ = some (.string afz) ∧ w'.cell? ⟨w.heap.size, 8, none⟩ = some (.int .i64 afr) ∧ w'.cell? ⟨w.heap.size, 9, none⟩ = some (.int .i64 afb) ∧ w'.cell? ⟨w.heap.size, 10, none⟩ = some (.string atz) ∧ w'.cell? ⟨w.heap.size, 11, none⟩ = some (.int .i64 atr) ∧ w'.cell? ⟨w.heap.size, 12, none⟩ = some (.int .i64 atb) ∧ w'.cell? ⟨w.heap.size, 13, none⟩ = some (.int .i64 an)) (go_keep) (first | (go_at_call 68; refine HC1.out.mono ?_; rintro r w2 ⟨p', b', rfl, hns⟩; have h2 := HT.out.go hns.below; have p4b := h2.book.cells.2.2.2.2.1; obtain ⟨v0, v1, v2, v3, v4, v5, v6, v7, v8, v9, v10, v11, v12, v13⟩ := h2.ent.at; (try simp only at v0 v1 v2 v3 v4 v5 v6 v7 v8 v9 v10 v11 v12 v13); have HN2 : Hid (NewSt _ _ _ _ _) := hns; have HT2 : Hid (Tw _ _ _ _ _ _ _ _ _ _) := h2; clear hns h2))
 go_wp2
 have h2d := HT2.out.drew
 have p3 := h2d.book.cells.2.2.2.1
 have lh2 := HLH.out _ (Or.inr h2d.book)
 obtain ⟨u0, u1, u2, u3, u4, u5, u6, u7, u8, u9, u10, u11, u12, u13⟩ := h2d.ent.at; (try simp only at u0 u1 u2 u3 u4 u5 u6 u7 u8 u9 u10 u11 u12 u13)
 have H2d : Hid (Tw _ _ _ _ _ _ _ _ _ _) := h2d
 clear h2d
 go_region_held3 (fun w' => w'.cell? ⟨x.p, 3, none⟩ = some (.map (some x.h)) ∧ (Instr.lookup 90 (.map (some x.h)) (.string ali) false).run Tryz.prog w' = .ok (.int .i64 lh) w' ∧ w'.cell? ⟨w.heap.size, 0, none⟩ = some (.string ak) ∧ w'.cell? ⟨w.heap.size, 1, none⟩ = some (.string agc) ∧ w'.cell? ⟨w.heap.size, 2, none⟩ = some (.int .i64 agp) ∧ w'.cell? ⟨w.heap.size, 3, none⟩ = some (.string ali) ∧ w'.cell? ⟨w.heap.size, 4, none⟩ = some (.string alc) ∧ w'.cell? ⟨w.heap.size, 5, none⟩ = some (.int .i64 alu) ∧ w'.cell? ⟨w.heap.size, 6, none⟩ = some (.int .i64 alk) ∧ w'.cell? ⟨w.heap.size, 7, none⟩ = some (.string afz) ∧ w'.cell? ⟨w.heap.size, 8, none⟩ = some (.int .i64 afr) ∧ w'.cell? ⟨w.heap.size, 9, none⟩ = some (.int .i64 afb) ∧ w'.cell? ⟨w.heap.size, 10, none⟩ = some (.string atz) ∧ w'.cell? ⟨w.heap.size, 11, none⟩ = some (.int .i64 atr) ∧ w'.cell? ⟨w.heap.size, 12, none⟩ = some (.int .i64 atb) ∧ w'.cell? ⟨w.heap.size, 13, none⟩ = some (.int .i64 an)) (go_keep) (first | (go_at_call 69; refine (HH.out _).mono ?_; rintro r w3 ⟨rfl, hb3⟩; have HN3 : Hid (NewSt _ _ _ _ _) := (HN2.out.later (Below.refl _ _).drew).later hb3; have h3 := H2d.out.go hb3; have p3b := h3.book.cells.2.2.2.1; have lh3 := HLH.out _ (Or.inr h3.book); obtain ⟨y0, y1, y2, y3, y4, y5, y6, y7, y8, y9, y10, y11, y12, y13⟩ := h3.ent.at; (try simp only at y0 y1 y2 y3 y4 y5 y6 y7 y8 y9 y10 y11 y12 y13); have HT3 : Hid (Tw _ _ _ _ _ _ _ _ _ _) := h3; clear hb3 h3))
 go_wp2_with (go_at_call 70; refine (HO.out _ _ _ HN3.out.st).mono ?_; rintro r w4 ⟨rfl, hb4⟩; have hs4 := (HSs.out _ (HT3.out.go hb4).below).five.short; have HN4 : Hid (NewSt _ _ _ _ _) := HN3.out.later hb4; have HT4 : Hid (Tw _ _ _ _ _ _ _ _ _ _) := HT3.out.go hb4; clear hb4)
 go_ret
 exact ⟨rfl, HT4.out.fin_⟩
theorem sets4 {W : World} {A : Nat} {a b c d : Value} {t : TypeId} (n1 : W.heap[A]? = some (.cells #[a, b, c, d] t (0, 0))) (v0 v1 v2 v3 : Value) : ∃ V2 V3 V4 V5 : World, W.setCell ⟨A, 0, none⟩ v0 = V2 ∧ V2.setCell ⟨A, 1, none⟩ v1 = V3 ∧ V3.setCell ⟨A, 2, none⟩ v2 = V4 ∧ V4.setCell ⟨A, 3, none⟩ v3 = V5 ∧
  (W.cell? ⟨A, 0, none⟩ = some a ∧ W.cell? ⟨A, 1, none⟩ = some b ∧ W.cell? ⟨A, 2, none⟩ = some c ∧ W.cell? ⟨A, 3, none⟩ = some d ∧ ∀ o, W.frozen? ⟨A, o, none⟩ = false) ∧ (V2.cell? ⟨A, 1, none⟩ = some b ∧ ∀ o, V2.frozen? ⟨A, o, none⟩ = false) ∧ (V3.cell? ⟨A, 2, none⟩ = some c ∧ ∀ o, V3.frozen? ⟨A, o, none⟩ = false) ∧ (V4.cell? ⟨A, 3, none⟩ = some d ∧ ∀ o, V4.frozen? ⟨A, o, none⟩ = false) ∧
  V5.heap[A]? = some (.cells #[v0, v1, v2, v3] t (0, 0)) ∧ Off [A] W V5 := by
 have n2 : (W.setCell ⟨A, 0, none⟩ v0).heap[A]? = some (.cells #[v0, b, c, d] t (0, 0)) := set_cell n1 0 v0 rfl
 have b2 : Off [A] W (W.setCell ⟨A, 0, none⟩ v0) := (Off.refl _ W).set (by simp) v0
 refine ⟨_, _, _, _, rfl, rfl, rfl, rfl, ?_⟩
 generalize W.setCell ⟨A, 0, none⟩ v0 = V2 at *
 have n3 : (V2.setCell ⟨A, 1, none⟩ v1).heap[A]? = some (.cells #[v0, v1, c, d] t (0, 0)) := set_cell n2 1 v1 rfl
 have b3 : Off [A] W (V2.setCell ⟨A, 1, none⟩ v1) := b2.set (by simp) v1
 generalize V2.setCell ⟨A, 1, none⟩ v1 = V3 at *
 have n4 : (V3.setCell ⟨A, 2, none⟩ v2).heap[A]? = some (.cells #[v0, v1, v2, d] t (0, 0)) := set_cell n3 2 v2 rfl
 have b4 : Off [A] W (V3.setCell ⟨A, 2, none⟩ v2) := b3.set (by simp) v2
 generalize V3.setCell ⟨A, 2, none⟩ v2 = V4 at *
 exact ⟨⟨by rw [cell_of_heap n1]; rfl, by rw [cell_of_heap n1]; rfl, by rw [cell_of_heap n1]; rfl, by rw [cell_of_heap n1]; rfl, fun o => frozen_of_heap n1 o⟩, ⟨by rw [cell_of_heap n2]; rfl, fun o => frozen_of_heap n2 o⟩, ⟨by rw [cell_of_heap n3]; rfl, fun o => frozen_of_heap n3 o⟩, ⟨by rw [cell_of_heap n4]; rfl, fun o => frozen_of_heap n4 o⟩, set_cell n4 3 v3 rfl, b4.set (by simp) v3⟩
theorem cells4 {W : World} {A : Nat} {a b c d : Value} {t : TypeId} (n1 : W.heap[A]? = some (.cells #[a, b, c, d] t (0, 0))) : W.cell? ⟨A, 0, none⟩ = some a ∧ W.cell? ⟨A, 1, none⟩ = some b ∧ W.cell? ⟨A, 2, none⟩ = some c ∧ W.cell? ⟨A, 3, none⟩ = some d := ⟨by rw [cell_of_heap n1]; rfl, by rw [cell_of_heap n1]; rfl, by rw [cell_of_heap n1]; rfl, by rw [cell_of_heap n1]; rfl⟩
theorem cellsT {W : World} {A : Nat} {c : Array Value} {T T' : TypeId} {f : Nat × Nat} {d : Array Value} {f' : Nat × Nat} (h : W.heap[A]? = some (.cells c T f)) (h' : W.heap[A]? = some (.cells d T' f')) : T = T' := by
 rw [h] at h'
 injection h' with h'
 injection h' with _ h2 _
theorem Tw.turn {w W W' : World} {B : Nat} {x : Bl} {ps bs : Nat} {b : Bk} {e : En} {lb : Nat} {l : Lo} (h : Tw w W B x ps bs b e lb l) {A : Nat} (hf : Off [A] W W') (hA : w.heap.size ≤ A) {d : Array Value} (nA : W.heap[A]? = some (.cells d 68 (0, 0))) : Tw w W' B x ps bs b e lb l := by
 have o : ∀ k, k < W.heap.size → k ≠ A → W'.heap[k]? = W.heap[k]? := fun k hk hn => hf.block k hk (by simpa using hn)
 have hl := h.book.low
 have hne : ∀ {k : Nat} {c : Array Value} {T : TypeId} {f : Nat × Nat}, W.heap[k]? = some (.cells c T f) → T ≠ 68 → k ≠ A := fun hk hT e9 => hT (cellsT hk (e9 ▸ nA))
 have hnm : ∀ {k : Nat} {L : List Ent} {kt : TypeId}, MapL Tryz.prog kt W k L → k ≠ A := fun hm e9 => by
  have c0 : W.cell? ⟨A, 0, none⟩ = W.cell? ⟨A, 0, none⟩ := rfl
  obtain ⟨es, ck, hb, _⟩ := hm
  rw [e9, nA] at hb
  cases hb
 refine ⟨h.below.trans (hf.below h.below.size (by simpa using hA)), h.book.of_blocks fun k hk => o k (hl k hk).2 ?_, ?_, ?_, h.lbn⟩
 ·rcases hk with rfl | rfl | rfl | rfl | rfl | rfl | rfl
  ·exact hne h.book.blk (by decide)
  ·exact hnm h.book.G
  ·exact hnm h.book.U
  ·exact hnm h.book.L
  ·exact hnm h.book.H
  ·exact hne h.book.sblk (by decide)
  ·exact hnm h.book.S.map
 ·exact (o _ (Array.getElem?_eq_some_iff.1 h.ent).1 (hne h.ent (by decide))).trans h.ent
 ·exact (o _ (Array.getElem?_eq_some_iff.1 h.lot).1 (hne h.lot (by decide))).trans h.lot
theorem NewSt.other {w0 w1 w2 : World} {p' b' : Nat} {m : List Ln} (h : NewSt w0 w1 p' b' m) {A : Nat} (hf : Off [A] w1 w2) (hA : w0.heap.size ≤ A) {d : Array Value} (nA : w1.heap[A]? = some (.cells d 68 (0, 0))) : NewSt w0 w2 p' b' m := by
 have o : ∀ k, k < w1.heap.size → k ≠ A → w2.heap[k]? = w1.heap[k]? := fun k hk hn => hf.block k hk (by simpa using hn)
 have n1 : p' ≠ A := fun e9 => absurd (cellsT h.blk (e9 ▸ nA)) (by decide)
 have n2 : b' ≠ A := fun e9 => by
  obtain ⟨es, ck, hb, _⟩ := h.st.map
  rw [e9, nA] at hb
  cases hb
 have k1 := o p' h.st.lt.1 n1
 have k2 := o b' h.st.lt.2 n2
 exact ⟨h.st.of_blocks k1 k2, k1.trans h.blk, h.lp, h.lb, h.below.trans (hf.below h.below.size (by simpa using hA))⟩
theorem keyS_size {c : ByteArray} {kl : Lit} (h : keyOf Tryz.prog 9 (.string c) = some kl) : c.size ≤ maxLen := by
 rw [keyOf_string Tryz.underlying9] at h
 simp only [mapKey, Tryz.underlying9] at h
 by_cases hc : c.size ≤ maxLen
 ·exact hc
 ·simp [hc] at h
theorem turn_bound (w : World) (s : Nat → Addr) (B : Nat) (x : Bl) (b : Bk) (e : En) (h : IsBk w B x b) (hz : SzE e) (hs : Bs w s) (k i : Nat) (l : Lh) (g : Gs) (hl : b.2.1[k]? = some l) (hid : nameL l = e.2.2.1.1) (hg : b.1[i]? = some g) (hgn : nameG g = l.1.2.1) (he : entErr e = 0) (h1 : e.1 ≠ kGoods) (h2 : e.1 ≠ kLot) (hc : stkE e b.2.2 = 0) (hh : 0 ≤ heldN e.1 l.2 e.2.2.2.2.2) (ho : heldN e.1 l.2 e.2.2.2.2.2 ≤ ofL (stkL e b.2.2) e.2.2.1.1) (hu : okSu (addSu e.1 g.2 e.2.2.2.2.2) = false) :
  Calls Tryz.prog 37 #[.pointer (some ⟨x.p, 0, none⟩), agE e] w fun r w' => r = .returned (errP s (2)) ∧ IsBk w' B x b ∧ Off x.all w w' := by
 obtain ⟨ps, bs, h⟩ := h
 have hE := BlkE.new w e
 have hb1 : Below w.heap.size w (w.alloc (celE e)) := (Below.refl _ w).alloc (Nat.le_refl _) _
 obtain ⟨W, hW⟩ : ∃ W, w.alloc (celE e) = W := ⟨_, rfl⟩
 rw [hW] at hE hb1
 have hB1 := h.all hb1
 have hlm := List.mem_of_getElem? hl
 have hgm := List.mem_of_getElem? hg
 have hq := hB1.askL_yes hz.li hlm hid
 obtain ⟨V1, V2, V3, V4, V5, e1, e2, e3, e4, e5, ⟨k1, k2, k3, k4, k5⟩, ⟨k6, k7⟩, ⟨k8, k9⟩, ⟨k10, k11⟩, n5, kb1, kb5⟩ := boxed4 W (.string ⟨#[]⟩) (.string ⟨#[]⟩) (.int .i64 0) (.int .i64 0) (.string l.1.1) (.string l.1.2.1) (.int .i64 l.1.2.2.1) (.int .i64 l.1.2.2.2) 39
 have hbV : Below w.heap.size w V5 := hb1.trans (kb5.mono hb1.size)
 have hT : Tw w V5.drew B x ps bs b e W.heap.size l.1 := Tw.drew ⟨hbV, h.all hbV, hE.below kb5, n5, hb1.size⟩
 have hC1 := stockAfter_any V5.drew s ps bs b.2.2 e hT.book.S hz (hs.below hT.below).five he h1 h2
 have hnum := piece_num he h1 h2
 have hsum := h.ok.wf.sums g hgm
 have hheld := h.ok.wf.held l hlm
 have hheld2 : l.2 ≤ 1099511627776 := Int.le_trans hheld.2 (h.ok.wf.st.most _)
 rw [hc, errP_zero] at hC1
 have HH : Hid (∀ W, Calls Tryz.prog 69 #[.int .i64 l.2, agE e] W fun r w' => r = .returned (.int .i64 (heldN e.1 l.2 e.2.2.2.2.2)) ∧ Below W.heap.size W w') := fun W => heldAfter_any l.2 e W ⟨hheld.1, hheld2⟩ hnum
 have HLH : Hid (∀ W, Tw w W B x ps bs b e W.heap.size l.1 ∨ BkAt W B x ps bs b → (Instr.lookup 90 (.map (some x.h)) (.string e.2.2.1.1) false).run Tryz.prog W = .ok (.int .i64 l.2) W) := fun W hW => (hW.elim Tw.book id).lookH hz.li hlm hid
 have HO : Hid (∀ W p' b', IsStock W p' b' (stkL e b.2.2) → Calls Tryz.prog 70 #[.pointer (some ⟨p', 0, none⟩), .string e.2.2.1.1] W fun r w' => r = .returned (.int .i64 (ofL (stkL e b.2.2) e.2.2.1.1)) ∧ Below W.heap.size W w') := fun W p' b' hi => of_any e.2.2.1.1 W p' b' (stkL e b.2.2) hi
 have hcz : l.1.2.1.size ≤ maxLen := by
  obtain ⟨kl, hkl⟩ := h.G.keys _ (List.mem_map.2 ⟨g, hgm, rfl⟩)
  have hss : g.1.1.size ≤ maxLen := by
   simp only [entG] at hkl
   exact keyS_size hkl
  rw [← hgn]; exact hss
 have HU : Hid (∀ W, Calls Tryz.prog 71 #[agU g.2, agE e] W fun r w' => r = .returned (agU (addSu e.1 g.2 e.2.2.2.2.2)) ∧ Below W.heap.size W w') := fun W => sumsAfter_any g.2 e W hsum hnum
 have HLU : Hid (∀ W, BkAt W B x ps bs b → (Instr.lookup 88 (.map (some x.u)) (.string l.1.2.1) false).run Tryz.prog W = .ok (.agg #[.int .i64 g.2.1, .int .i64 g.2.2.1, .int .i64 g.2.2.2.1, .int .i64 g.2.2.2.2]) W) := fun W hW => hW.lookU hcz hgm hgn
 have HWl : Hid (∀ W, Calls Tryz.prog 72 #[agU (addSu e.1 g.2 e.2.2.2.2.2)] W fun r w' => r = .returned (.bool false) ∧ Below W.heap.size W w') := fun W => hu ▸ well_any _ W
 have HSs : Hid (∀ W, Below w.heap.size w W → Bs W s) := fun W hb => hs.below hb
 have c3 := hE.at.c3
 obtain ⟨_, _, p2, _⟩ := hB1.cells
 have p4 := hT.book.cells.2.2.2.2.1
 obtain ⟨t0, t1, t2, t3, t4, t5, t6, t7, t8, t9, t10, t11, t12, t13⟩ := hT.ent.at; (try simp only at t0 t1 t2 t3 t4 t5 t6 t7 t8 t9 t10 t11 t12 t13)
 have HT : Hid (Tw _ _ _ _ _ _ _ _ _ _) := hT
 have HC1 : Hid (Calls Tryz.prog 68 _ _ _) := hC1
 have HV : Hid (w.heap.size ≤ V5.drew.heap.size) := hbV.size
 generalize hHN : heldN e.1 l.2 e.2.2.2.2.2 = hd at *
 generalize hON : ofL (stkL e b.2.2) e.2.2.1.1 = od at *
 clear kb1 kb5 hbV hb1 hB1 hE h hs hz hT hC1 hnum hsum hheld hheld2 hlm hgm hl hg hid hgn he h1 h2 hc n5 hcz
 obtain ⟨ak, ⟨agc, agp⟩, ⟨ali, alc, alu, alk⟩, ⟨afz, afr, afb⟩, ⟨atz, atr, atb⟩, an⟩ := e
 obtain ⟨⟨lli, llc, llu, llk⟩, lh⟩ := l
 generalize hSN : addSu ak g.2 an = su at *
 obtain ⟨⟨ggc, ggp⟩, g1, g2, g3, g4⟩ := g
 obtain ⟨s1, s2, s3, s4⟩ := su
 unfold agE celE agU at *
 simp only at *
 go_enter Tryz.func37, Tryz.ntmps37
 go_wp2_with (at_lookup; refine wpL_ask rfl _ _ 89 rfl x.l _ _ rfl rfl hq ?_)
 go_region_held3 (fun w' => w'.cell? ⟨x.p, 4, none⟩ = some (.pointer (some ⟨ps, 0, none⟩)) ∧ w'.cell? ⟨w.heap.size, 0, none⟩ = some (.string ak) ∧ w'.cell? ⟨w.heap.size, 1, none⟩ = some (.string agc) ∧ w'.cell? ⟨w.heap.size, 2, none⟩ = some (.int .i64 agp) ∧ w'.cell? ⟨w.heap.size, 3, none⟩ = some (.string ali) ∧ w'.cell? ⟨w.heap.size, 4, none⟩ = some (.string alc) ∧ w'.cell? ⟨w.heap.size, 5, none⟩ = some (.int .i64 alu) ∧ w'.cell? ⟨w.heap.size, 6, none⟩ = some (.int .i64 alk) ∧ w'.cell? ⟨w.heap.size, 7, none⟩ = some (.string afz) ∧ w'.cell? ⟨w.heap.size, 8, none⟩ = some (.int .i64 afr) ∧ w'.cell? ⟨w.heap.size, 9, none⟩ = some (.int .i64 afb) ∧ w'.cell? ⟨w.heap.size, 10, none⟩ = some (.string atz) ∧ w'.cell? ⟨w.heap.size, 11, none⟩ = some (.int .i64 atr) ∧ w'.cell? ⟨w.heap.size, 12, none⟩ = some (.int .i64 atb) ∧ w'.cell? ⟨w.heap.size, 13, none⟩ = some (.int .i64 an)) (go_keep) (first | (go_at_call 68; refine HC1.out.mono ?_; rintro r w2 ⟨p', b', rfl, hns⟩; have h2 := HT.out.go hns.below; have p4b := h2.book.cells.2.2.2.2.1; obtain ⟨v0, v1, v2, v3, v4, v5, v6, v7, v8, v9, v10, v11, v12, v13⟩ := h2.ent.at; (try simp only at v0 v1 v2 v3 v4 v5 v6 v7 v8 v9 v10 v11 v12 v13); have HN2 : Hid (NewSt _ _ _ _ _) := hns; have HT2 : Hid (Tw _ _ _ _ _ _ _ _ _ _) := h2; clear hns h2))
 go_wp2
 have h2d := HT2.out.drew
 have p3 := h2d.book.cells.2.2.2.1
 have lh2 := HLH.out _ (Or.inr h2d.book)
 obtain ⟨u0, u1, u2, u3, u4, u5, u6, u7, u8, u9, u10, u11, u12, u13⟩ := h2d.ent.at; (try simp only at u0 u1 u2 u3 u4 u5 u6 u7 u8 u9 u10 u11 u12 u13)
 have H2d : Hid (Tw _ _ _ _ _ _ _ _ _ _) := h2d
 clear h2d
 go_region_held3 (fun w' => w'.cell? ⟨x.p, 3, none⟩ = some (.map (some x.h)) ∧ (Instr.lookup 90 (.map (some x.h)) (.string ali) false).run Tryz.prog w' = .ok (.int .i64 lh) w' ∧ w'.cell? ⟨w.heap.size, 0, none⟩ = some (.string ak) ∧ w'.cell? ⟨w.heap.size, 1, none⟩ = some (.string agc) ∧ w'.cell? ⟨w.heap.size, 2, none⟩ = some (.int .i64 agp) ∧ w'.cell? ⟨w.heap.size, 3, none⟩ = some (.string ali) ∧ w'.cell? ⟨w.heap.size, 4, none⟩ = some (.string alc) ∧ w'.cell? ⟨w.heap.size, 5, none⟩ = some (.int .i64 alu) ∧ w'.cell? ⟨w.heap.size, 6, none⟩ = some (.int .i64 alk) ∧ w'.cell? ⟨w.heap.size, 7, none⟩ = some (.string afz) ∧ w'.cell? ⟨w.heap.size, 8, none⟩ = some (.int .i64 afr) ∧ w'.cell? ⟨w.heap.size, 9, none⟩ = some (.int .i64 afb) ∧ w'.cell? ⟨w.heap.size, 10, none⟩ = some (.string atz) ∧ w'.cell? ⟨w.heap.size, 11, none⟩ = some (.int .i64 atr) ∧ w'.cell? ⟨w.heap.size, 12, none⟩ = some (.int .i64 atb) ∧ w'.cell? ⟨w.heap.size, 13, none⟩ = some (.int .i64 an)) (go_keep) (first | (go_at_call 69; refine (HH.out _).mono ?_; rintro r w3 ⟨rfl, hb3⟩; have HN3 : Hid (NewSt _ _ _ _ _) := (HN2.out.later (Below.refl _ _).drew).later hb3; have h3 := H2d.out.go hb3; have p3b := h3.book.cells.2.2.2.1; have lh3 := HLH.out _ (Or.inr h3.book); obtain ⟨y0, y1, y2, y3, y4, y5, y6, y7, y8, y9, y10, y11, y12, y13⟩ := h3.ent.at; (try simp only at y0 y1 y2 y3 y4 y5 y6 y7 y8 y9 y10 y11 y12 y13); have HT3 : Hid (Tw _ _ _ _ _ _ _ _ _ _) := h3; clear hb3 h3))
 go_wp2_with (go_at_call 70; refine (HO.out _ _ _ HN3.out.st).mono ?_; rintro r w4 ⟨rfl, hb4⟩; have hs4 := (HSs.out _ (HT3.out.go hb4).below).five.short; have HN4 : Hid (NewSt _ _ _ _ _) := HN3.out.later hb4; have HT4 : Hid (Tw _ _ _ _ _ _ _ _ _ _) := HT3.out.go hb4; clear hb4)
 have h4d := HT4.out.drew
 have p1 := h4d.book.cells.2.1
 have lc4 := h4d.code
 have lu4 := HLU.out _ h4d.book
 (try simp only at lc4)
 obtain ⟨z0, z1, z2, z3, z4, z5, z6, z7, z8, z9, z10, z11, z12, z13⟩ := h4d.ent.at; (try simp only at z0 z1 z2 z3 z4 z5 z6 z7 z8 z9 z10 z11 z12 z13)
 have hbA : Below w4.drew.heap.size w4.drew (w4.drew.alloc (.cells #[.int .i64 0, .int .i64 0, .int .i64 0, .int .i64 0] 68)) := (Below.refl _ _).alloc (Nat.le_refl _) _
 have nA := heap_alloc_new w4.drew (.cells #[.int .i64 0, .int .i64 0, .int .i64 0, .int .i64 0] 68)
 obtain ⟨A1, eA⟩ : ∃ A1, w4.drew.alloc (.cells #[.int .i64 0, .int .i64 0, .int .i64 0, .int .i64 0] 68) = A1 := ⟨_, rfl⟩
 rw [eA] at hbA nA
 have hA := h4d.go hbA
 have p1A := hA.book.cells.2.1
 have lcA := hA.code
 have luA := HLU.out _ hA.book
 (try simp only at lcA)
 obtain ⟨q0, q1, q2, q3, q4, q5, q6, q7, q8, q9, q10, q11, q12, q13⟩ := hA.ent.at; (try simp only at q0 q1 q2 q3 q4 q5 q6 q7 q8 q9 q10 q11 q12 q13)
 have H4d : Hid (Tw _ _ _ _ _ _ _ _ _ _) := h4d
 have HA : Hid (Tw _ _ _ _ _ _ _ _ _ _) := hA
 have HnA : Hid (A1.heap[w4.heap.size]? = some (.cells #[.int .i64 0, .int .i64 0, .int .i64 0, .int .i64 0] 68 (0, 0))) := nA
 have HNd : Hid (NewSt _ w4.drew _ _ _) := HN4.out.later (Below.refl _ _).drew
 have HNA : Hid (NewSt _ A1 _ _ _) := (HN4.out.later (Below.refl _ _).drew).later hbA
 have HUA : Hid (Calls Tryz.prog 71 _ A1 _) := HU.out A1
 have HUB : Hid (Calls Tryz.prog 71 _ w4.drew _) := HU.out w4.drew
 have HWn : Hid (w.heap.size ≤ w4.heap.size) := h4d.below.size
 have HWm : Hid (V5.drew.heap.size ≤ w4.heap.size) := HN4.out.below.size
 clear h4d hA hbA nA
 go_region_held3 (fun w' => w'.cell? ⟨x.p, 1, none⟩ = some (.map (some x.u)) ∧ w'.cell? ⟨W.heap.size, 1, none⟩ = some (.string llc) ∧ (Instr.lookup 88 (.map (some x.u)) (.string llc) false).run Tryz.prog w' = .ok (.agg #[.int .i64 g1, .int .i64 g2, .int .i64 g3, .int .i64 g4]) w' ∧ w'.cell? ⟨w.heap.size, 0, none⟩ = some (.string ak) ∧ w'.cell? ⟨w.heap.size, 1, none⟩ = some (.string agc) ∧ w'.cell? ⟨w.heap.size, 2, none⟩ = some (.int .i64 agp) ∧ w'.cell? ⟨w.heap.size, 3, none⟩ = some (.string ali) ∧ w'.cell? ⟨w.heap.size, 4, none⟩ = some (.string alc) ∧ w'.cell? ⟨w.heap.size, 5, none⟩ = some (.int .i64 alu) ∧ w'.cell? ⟨w.heap.size, 6, none⟩ = some (.int .i64 alk) ∧ w'.cell? ⟨w.heap.size, 7, none⟩ = some (.string afz) ∧ w'.cell? ⟨w.heap.size, 8, none⟩ = some (.int .i64 afr) ∧ w'.cell? ⟨w.heap.size, 9, none⟩ = some (.int .i64 afb) ∧ w'.cell? ⟨w.heap.size, 10, none⟩ = some (.string atz) ∧ w'.cell? ⟨w.heap.size, 11, none⟩ = some (.int .i64 atr) ∧ w'.cell? ⟨w.heap.size, 12, none⟩ = some (.int .i64 atb) ∧ w'.cell? ⟨w.heap.size, 13, none⟩ = some (.int .i64 an)) (go_keep) (first | (go_at_call 71; refine HUA.out.mono ?_; rintro r w5 ⟨rfl, hb5⟩; have nA5 := (hb5.block _ (Array.getElem?_eq_some_iff.1 HnA.out).1).trans HnA.out; obtain ⟨T2, T3, T4, T5, f2, f3, f4, f5, ⟨j1, j2, j3, j4, j5⟩, ⟨j6, j7⟩, ⟨j8, j9⟩, ⟨j10, j11⟩, n6, fo⟩ := sets4 nA5 (.int .i64 s1) (.int .i64 s2) (.int .i64 s3) (.int .i64 s4); have h5 := HA.out.go hb5; have h55 := h5.turn fo HWn.out nA5; have fap := h5.book.cells.2.1; have fac := h5.code; (try simp only at fac); have fal := HLU.out _ h5.book; obtain ⟨fa0, fa1, fa2, fa3, fa4, fa5, fa6, fa7, fa8, fa9, fa10, fa11, fa12, fa13⟩ := h5.ent.at; (try simp only at fa0 fa1 fa2 fa3 fa4 fa5 fa6 fa7 fa8 fa9 fa10 fa11 fa12 fa13); have fbp := h55.book.cells.2.1; have fbc := h55.code; (try simp only at fbc); have fbl := HLU.out _ h55.book; obtain ⟨fb0, fb1, fb2, fb3, fb4, fb5, fb6, fb7, fb8, fb9, fb10, fb11, fb12, fb13⟩ := h55.ent.at; (try simp only at fb0 fb1 fb2 fb3 fb4 fb5 fb6 fb7 fb8 fb9 fb10 fb11 fb12 fb13); have HT5 : Hid (Tw _ T5 _ _ _ _ _ _ _ _) := h55; have HN5 : Hid (NewSt _ T5 _ _ _) := (HNA.out.later hb5).other fo HWm.out nA5; have H6 : Hid (T5.heap[w4.heap.size]? = _) := n6; clear fo n6 hb5 nA5 h5 h55) | (go_at_call 71; refine HUB.out.mono ?_; rintro r w5 ⟨rfl, hb5⟩; obtain ⟨T1, T2, T3, T4, T5, f1, f2, f3, f4, f5, ⟨j1, j2, j3, j4, j5⟩, ⟨j6, j7⟩, ⟨j8, j9⟩, ⟨j10, j11⟩, n6, jb1, jb5⟩ := boxed4 w5 (.int .i64 0) (.int .i64 0) (.int .i64 0) (.int .i64 0) (.int .i64 s1) (.int .i64 s2) (.int .i64 s3) (.int .i64 s4) 68; have h5 := H4d.out.go hb5; have h51 := h5.go jb1; have h55 := h5.go jb5; have fap := h5.book.cells.2.1; have fac := h5.code; (try simp only at fac); have fal := HLU.out _ h5.book; obtain ⟨fa0, fa1, fa2, fa3, fa4, fa5, fa6, fa7, fa8, fa9, fa10, fa11, fa12, fa13⟩ := h5.ent.at; (try simp only at fa0 fa1 fa2 fa3 fa4 fa5 fa6 fa7 fa8 fa9 fa10 fa11 fa12 fa13); have fbp := h51.book.cells.2.1; have fbc := h51.code; (try simp only at fbc); have fbl := HLU.out _ h51.book; obtain ⟨fb0, fb1, fb2, fb3, fb4, fb5, fb6, fb7, fb8, fb9, fb10, fb11, fb12, fb13⟩ := h51.ent.at; (try simp only at fb0 fb1 fb2 fb3 fb4 fb5 fb6 fb7 fb8 fb9 fb10 fb11 fb12 fb13); have fcp := h55.book.cells.2.1; have fcc := h55.code; (try simp only at fcc); have fcl := HLU.out _ h55.book; obtain ⟨fc0, fc1, fc2, fc3, fc4, fc5, fc6, fc7, fc8, fc9, fc10, fc11, fc12, fc13⟩ := h55.ent.at; (try simp only at fc0 fc1 fc2 fc3 fc4 fc5 fc6 fc7 fc8 fc9 fc10 fc11 fc12 fc13); have HT5 : Hid (Tw _ T5 _ _ _ _ _ _ _ _) := h55; have HN5 : Hid (NewSt _ T5 _ _ _) := (HNd.out.later hb5).later jb5; have H6 : Hid (T5.heap[w5.heap.size]? = _) := n6; clear jb1 jb5 n6 hb5 h5 h51 h55))
 all_goals
  obtain ⟨m0, m1, m2, m3⟩ := cells4 H6.out
  go_wp2_with (go_at_call 72; refine (HWl.out _).mono ?_; rintro r w6 ⟨rfl, hb6⟩; have hs6 := (HSs.out _ (HT5.out.go hb6).below).five.two.bound; have HT6 : Hid (Tw _ _ _ _ _ _ _ _ _ _) := HT5.out.go hb6; clear hb6)
  go_ret
  exact ⟨rfl, HT6.out.fin_⟩
end Go.Proofs.YtppodkkefegbkaaGreatDoor
namespace Go.Proofs.YtppodkkefegbkaaGreatDoor
open Go.RowKit Go.Lib Go.Sort
theorem sets4' {W : World} {A : Nat} {a b c d : Value} {t : TypeId} (n1 : W.heap[A]? = some (.cells #[a, b, c, d] t (0, 0))) (v0 v1 v2 v3 : Value) : ∃ V2 V3 V4 V5 : World, W.setCell ⟨A, 0, none⟩ v0 = V2 ∧ V2.setCell ⟨A, 1, none⟩ v1 = V3 ∧ V3.setCell ⟨A, 2, none⟩ v2 = V4 ∧ V4.setCell ⟨A, 3, none⟩ v3 = V5 ∧
  (W.cell? ⟨A, 0, none⟩ = some a ∧ W.cell? ⟨A, 1, none⟩ = some b ∧ W.cell? ⟨A, 2, none⟩ = some c ∧ W.cell? ⟨A, 3, none⟩ = some d ∧ ∀ o, W.frozen? ⟨A, o, none⟩ = false) ∧ (V2.cell? ⟨A, 1, none⟩ = some b ∧ ∀ o, V2.frozen? ⟨A, o, none⟩ = false) ∧ (V3.cell? ⟨A, 2, none⟩ = some c ∧ ∀ o, V3.frozen? ⟨A, o, none⟩ = false) ∧ (V4.cell? ⟨A, 3, none⟩ = some d ∧ ∀ o, V4.frozen? ⟨A, o, none⟩ = false) ∧
  V5.heap[A]? = some (.cells #[v0, v1, v2, v3] t (0, 0)) ∧ Off [A] W V5 := by
 have n2 : (W.setCell ⟨A, 0, none⟩ v0).heap[A]? = some (.cells #[v0, b, c, d] t (0, 0)) := set_cell n1 0 v0 rfl
 have b2 : Off [A] W (W.setCell ⟨A, 0, none⟩ v0) := (Off.refl _ W).set (by simp) v0
 refine ⟨_, _, _, _, rfl, rfl, rfl, rfl, ?_⟩
 generalize W.setCell ⟨A, 0, none⟩ v0 = V2 at *
 have n3 : (V2.setCell ⟨A, 1, none⟩ v1).heap[A]? = some (.cells #[v0, v1, c, d] t (0, 0)) := set_cell n2 1 v1 rfl
 have b3 : Off [A] W (V2.setCell ⟨A, 1, none⟩ v1) := b2.set (by simp) v1
 generalize V2.setCell ⟨A, 1, none⟩ v1 = V3 at *
 have n4 : (V3.setCell ⟨A, 2, none⟩ v2).heap[A]? = some (.cells #[v0, v1, v2, d] t (0, 0)) := set_cell n3 2 v2 rfl
 have b4 : Off [A] W (V3.setCell ⟨A, 2, none⟩ v2) := b3.set (by simp) v2
 generalize V3.setCell ⟨A, 2, none⟩ v2 = V4 at *
 exact ⟨⟨by rw [cell_of_heap n1]; rfl, by rw [cell_of_heap n1]; rfl, by rw [cell_of_heap n1]; rfl, by rw [cell_of_heap n1]; rfl, fun o => frozen_of_heap n1 o⟩, ⟨by rw [cell_of_heap n2]; rfl, fun o => frozen_of_heap n2 o⟩, ⟨by rw [cell_of_heap n3]; rfl, fun o => frozen_of_heap n3 o⟩, ⟨by rw [cell_of_heap n4]; rfl, fun o => frozen_of_heap n4 o⟩, set_cell n4 3 v3 rfl, b4.set (by simp) v3⟩
theorem cells4' {W : World} {A : Nat} {a b c d : Value} {t : TypeId} (n1 : W.heap[A]? = some (.cells #[a, b, c, d] t (0, 0))) : W.cell? ⟨A, 0, none⟩ = some a ∧ W.cell? ⟨A, 1, none⟩ = some b ∧ W.cell? ⟨A, 2, none⟩ = some c ∧ W.cell? ⟨A, 3, none⟩ = some d := ⟨by rw [cell_of_heap n1]; rfl, by rw [cell_of_heap n1]; rfl, by rw [cell_of_heap n1]; rfl, by rw [cell_of_heap n1]; rfl⟩
section
variable {w W : World} {B : Nat} {x : Bl} {ps bs : Nat} {b : Bk}
theorem BkAt.sumsAt (h : BkAt W B x ps bs b) {c : ByteArray} (hc : c.size ≤ maxLen) : (Instr.lookup 88 (.map (some x.u)) (.string c) false).run Tryz.prog W = .ok (.agg #[.int .i64 (sumsB b c).1, .int .i64 (sumsB b c).2.1, .int .i64 (sumsB b c).2.2.1, .int .i64 (sumsB b c).2.2.2]) W := by
 unfold sumsB
 rcases findN_cases nameG b.1 c with ⟨h1, h2⟩ | ⟨y, h1, h2, h3⟩
 ·rw [h1]
  exact h.U.look_miss Tryz.keyedS Tryz.underlying88 (keyS hc) (Tryz.zeroValue68 W) fun v hv => by
   obtain ⟨g, hg, e, _⟩ := mem_entU hv
   exact h2 g hg e
 ·rw [h1]; exact h.lookU hc h2 h3
theorem BkAt.lotAt_ (h : BkAt W B x ps bs b) {c : ByteArray} (hc : c.size ≤ maxLen) : (Instr.lookup 89 (.map (some x.l)) (.string c) true).run Tryz.prog W = .ok (.tuple #[.agg #[.string (lotAt b c).1, .string (lotAt b c).2.1, .int .i64 (lotAt b c).2.2.1, .int .i64 (lotAt b c).2.2.2], .bool (isLot b c)]) W := by
 unfold lotAt isLot
 rcases findN_cases nameL b.2.1 c with ⟨h1, h2⟩ | ⟨y, h1, h2, h3⟩
 ·rw [h1]; exact h.askL_no hc h2
 ·rw [h1]; exact h.askL_yes hc h2 h3
end
theorem bstock_any (w : World) (B : Nat) (x : Bl) (b : Bk) (h : IsBk w B x b) :
  Calls Tryz.prog 12 #[.pointer (some ⟨x.p, 0, none⟩)] w fun e w' => ∃ p' b', e = .returned (.pointer (some ⟨p', 0, none⟩)) ∧ NewSt w w' p' b' b.2.2 := by
 have hW := whole_any w B x b h
 obtain ⟨ps, bs, h⟩ := h
 obtain ⟨_, _, _, _, p4, _⟩ := h.cells
 have HC : Hid (Calls Tryz.prog 39 _ _ _) := copyB_any w ps bs b.2.2 h.S
 have HW : Hid (Calls Tryz.prog 38 _ _ _) := hW
 clear h hW
 go_enter Tryz.func12, Tryz.ntmps12
 go_wp2_with (first
  | (go_at_call 38; refine HW.out.mono ?_; rintro e w1 ⟨rfl, hw⟩; have hw' := hw.symm; subst hw')
  | (go_at_call 39; refine HC.out.mono ?_; rintro e w2 ⟨p', b', rfl, h1, h2, h3, h4, h5⟩))
 go_ret
 exact ⟨p', b', rfl, h3, h4, h1, h2, h5⟩
theorem bsums_any (c : ByteArray) (w : World) (B : Nat) (x : Bl) (b : Bk) (h : IsBk w B x b) (hc : c.size ≤ maxLen) :
  Calls Tryz.prog 26 #[.pointer (some ⟨x.p, 0, none⟩), .string c] w fun e w' => e = .returned (agU (sumsB b c)) ∧ Below w.heap.size w w' := by
 obtain ⟨V1, V2, V3, V4, V5, e1, e2, e3, e4, e5, ⟨k1, k2, k3, k4, k5⟩, ⟨k6, k7⟩, ⟨k8, k9⟩, ⟨k10, k11⟩, n5, kb1, kb5⟩ := boxed4 w (.int .i64 0) (.int .i64 0) (.int .i64 0) (.int .i64 0) (.int .i64 (sumsB b c).1) (.int .i64 (sumsB b c).2.1) (.int .i64 (sumsB b c).2.2.1) (.int .i64 (sumsB b c).2.2.2) 68
 have hW := whole_any V1 B x b (h.below kb1)
 obtain ⟨ps, bs, h⟩ := h
 obtain ⟨_, p1, _, _, _, _⟩ := (h.all kb1).cells
 have hl := (h.all kb1).sumsAt hc
 have HW : Hid (Calls Tryz.prog 38 _ _ _) := hW
 have HB : Hid (Below _ _ _) := kb5
 have m0 : V5.cell? ⟨w.heap.size, 0, none⟩ = some (.int .i64 (sumsB b c).1) := by rw [cell_of_heap n5]; rfl
 have m1 : V5.cell? ⟨w.heap.size, 1, none⟩ = some (.int .i64 (sumsB b c).2.1) := by rw [cell_of_heap n5]; rfl
 have m2 : V5.cell? ⟨w.heap.size, 2, none⟩ = some (.int .i64 (sumsB b c).2.2.1) := by rw [cell_of_heap n5]; rfl
 have m3 : V5.cell? ⟨w.heap.size, 3, none⟩ = some (.int .i64 (sumsB b c).2.2.2) := by rw [cell_of_heap n5]; rfl
 unfold agU
 generalize sumsB b c = u at *
 obtain ⟨u0, u1, u2, u3⟩ := u
 simp only at *
 clear h hW kb1 kb5 n5
 go_enter Tryz.func26, Tryz.ntmps26
 go_wp2_with (first
  | (go_at_call 38; refine HW.out.mono ?_; rintro e w1 ⟨rfl, hw⟩; have hw' := hw.symm; subst hw')
  | (at_lookup; refine wpL_look rfl _ _ 88 rfl x.u _ _ rfl rfl hl ?_))
 exact bodyPost_ret (v := .agg #[.int .i64 u0, .int .i64 u1, .int .i64 u2, .int .i64 u3]) (by simp [results, Tryz.results26, go_sem, m0, m1, m2, m3]) rfl ⟨rfl, HB.out⟩
theorem blot_any (c : ByteArray) (w : World) (B : Nat) (x : Bl) (b : Bk) (h : IsBk w B x b) (hc : c.size ≤ maxLen) :
  Calls Tryz.prog 32 #[.pointer (some ⟨x.p, 0, none⟩), .string c] w fun e w' => e = .returned (.tuple #[agQ (lotAt b c), .bool (isLot b c)]) ∧ Below w.heap.size w w' := by
 have n1 := heap_alloc_new w (.cells #[.string ⟨#[]⟩, .string ⟨#[]⟩, .int .i64 0, .int .i64 0] 39)
 have b1 : Below w.heap.size w (w.alloc (.cells #[.string ⟨#[]⟩, .string ⟨#[]⟩, .int .i64 0, .int .i64 0] 39)) := (Below.refl _ w).alloc (Nat.le_refl _) _
 obtain ⟨W, hW1⟩ : ∃ W, w.alloc (.cells #[.string ⟨#[]⟩, .string ⟨#[]⟩, .int .i64 0, .int .i64 0] 39) = W := ⟨_, rfl⟩
 rw [hW1] at n1 b1
 obtain ⟨V1, V2, V3, V4, V5, e1, e2, e3, e4, e5, ⟨k1, k2, k3, k4, k5⟩, ⟨k6, k7⟩, ⟨k8, k9⟩, ⟨k10, k11⟩, n5, kb1, kb5⟩ := boxed4 W (.string ⟨#[]⟩) (.string ⟨#[]⟩) (.int .i64 0) (.int .i64 0) (.string (lotAt b c).1) (.string (lotAt b c).2.1) (.int .i64 (lotAt b c).2.2.1) (.int .i64 (lotAt b c).2.2.2) 39
 obtain ⟨g0, g1, g2, g3⟩ := cells4' n5
 obtain ⟨T2, T3, T4, T5, f2, f3, f4, f5, ⟨j1, j2, j3, j4, j5⟩, ⟨j6, j7⟩, ⟨j8, j9⟩, ⟨j10, j11⟩, n6, fo⟩ := sets4' ((kb5.block _ (Array.getElem?_eq_some_iff.1 n1).1).trans n1) (.string (lotAt b c).1) (.string (lotAt b c).2.1) (.int .i64 (lotAt b c).2.2.1) (.int .i64 (lotAt b c).2.2.2)
 obtain ⟨m0, m1, m2, m3⟩ := cells4' n6
 have hW := whole_any W B x b (h.below b1)
 obtain ⟨ps, bs, h⟩ := h
 obtain ⟨_, _, p2, _, _, _⟩ := (h.all b1).cells
 have hl := (h.all b1).lotAt_ hc
 have HW : Hid (Calls Tryz.prog 38 _ _ _) := hW
 have hb5 : Below w.heap.size w V5 := b1.trans (kb5.mono b1.size)
 have HB : Hid (Below w.heap.size w T5) := hb5.trans (fo.below hb5.size (by simp))
 unfold agQ
 generalize lotAt b c = u at *
 obtain ⟨u0, u1, u2, u3⟩ := u
 simp only at *
 clear h hW kb1 kb5 n5 n6 fo hb5 b1 n1
 go_enter Tryz.func32, Tryz.ntmps32
 go_wp2_with (first
  | (go_at_call 38; refine HW.out.mono ?_; rintro e w1 ⟨rfl, hw⟩; have hw' := hw.symm; subst hw')
  | (at_lookup; refine wpL_ask rfl _ _ 89 rfl x.l _ _ rfl rfl hl ?_))
 exact bodyPost_ret (v := .tuple #[.agg #[.string u0, .string u1, .int .i64 u2, .int .i64 u3], .bool (isLot b c)]) (by simp [results, Tryz.results32, go_sem, m0, m1, m2, m3]) rfl ⟨rfl, HB.out⟩
end Go.Proofs.YtppodkkefegbkaaGreatDoor
