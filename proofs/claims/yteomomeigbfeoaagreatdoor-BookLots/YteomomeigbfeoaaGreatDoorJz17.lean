/-
 What heldAfter, sumsAfter and well answer: what is held, what the sums are behind an entry; are they well?
-/
import Derived.Test.YteomomeigbfeoaaGreatDoorJz10
import Derived.Test.YteomomeigbfeoaaGreatDoorJz8
import Derived.Test.YteomomeigbfeoaaGreatDoorJz16
import Derived.Test.YteomomeigbfeoaaGreatDoorGenM
import Derived.Shelf.SlMaps.Clone
import Derived.BigRegion
import Derived.Maps.OwnOps
import Derived.Test.YteomomeigbfeoaaGreatDoorJz9
import Derived.Test.YteomomeigbfeoaaGreatDoorJz3
import Derived.Test.YteomomeigbfeoaaGreatDoorGenK
import Derived.Shelf.SlSortCmp.NoneTotal
import Derived.Test.YteomomeigbfeoaaGreatDoorJz6
import Derived.Deep.RegionHeld3
import Derived.Laws.StructEq
set_option maxRecDepth 100000
set_option maxHeartbeats 16000000
namespace Go.Proofs.YteomomeigbfeoaaGreatDoor
open Go.RowKit Go.Lib Go.Sort
theorem heldN_hold {k : ByteArray} (h : k = kHold) (a n : Int) : heldN k a n = a + n := by unfold heldN; rw [if_pos h]
theorem heldN_free {k : ByteArray} (h : k = kFree) (a n : Int) : heldN k a n = a - n := by unfold heldN; rw [if_neg (by rw [h]; decide), if_pos h]
theorem heldN_else {k : ByteArray} (h1 : k ≠ kHold) (h2 : k ≠ kFree) (a n : Int) : heldN k a n = a := by unfold heldN; rw [if_neg h1, if_neg h2]
theorem heldAfter_any (a : Int) (e : En) (w : World) (ha : 0 ≤ a ∧ a ≤ 1099511627776) (hn : 1 ≤ e.2.2.2.2.2 ∧ e.2.2.2.2.2 ≤ 1099511627776) :
  Calls Tryz.prog 92 #[.int .i64 a, agE e] w fun r w' => r = .returned (.int .i64 (heldN e.1 a e.2.2.2.2.2)) ∧ Below w.heap.size w w' := by
 have hE := BlkE.new w e
 have hb : Below w.heap.size w (w.alloc (celE e)) := (Below.refl _ w).alloc (Nat.le_refl _) _
 obtain ⟨a1, a2⟩ := ha
 obtain ⟨n1, n2⟩ := hn
 have c0 := hE.at.c0
 have c13 := hE.at.c13
 have HB : Hid (Below _ _ _) := hb
 clear hE hb
 by_cases h1 : e.1 = kHold
 ·rw [heldN_hold h1]
  have x1 : (e.1.toList == kHold.data.toList) = true := same_wordR h1
  clear h1
  obtain ⟨ak, ⟨agc, agp⟩, ⟨ali, alc, alu, alk⟩, ⟨afz, afr, afb⟩, ⟨atz, atr, atb⟩, an⟩ := e
  unfold agE celE at *
  simp only at *
  go_enter Tryz.func92, Tryz.ntmps92
  go_wp2
  go_ret
  exact ⟨rfl, HB.out⟩
 ·have x1 : (e.1.toList == kHold.data.toList) = false := other_word h1
  by_cases h2 : e.1 = kFree
  ·rw [heldN_free h2]
   have x2 : (e.1.toList == kFree.data.toList) = true := same_wordR h2
   clear h1 h2
   obtain ⟨ak, ⟨agc, agp⟩, ⟨ali, alc, alu, alk⟩, ⟨afz, afr, afb⟩, ⟨atz, atr, atb⟩, an⟩ := e
   unfold agE celE at *
   simp only at *
   go_enter Tryz.func92, Tryz.ntmps92
   go_wp2
   go_ret
   exact ⟨rfl, HB.out⟩
  ·rw [heldN_else h1 h2]
   have x2 : (e.1.toList == kFree.data.toList) = false := other_word h2
   clear h1 h2
   obtain ⟨ak, ⟨agc, agp⟩, ⟨ali, alc, alu, alk⟩, ⟨afz, afr, afb⟩, ⟨atz, atr, atb⟩, an⟩ := e
   unfold agE celE at *
   simp only at *
   go_enter Tryz.func92, Tryz.ntmps92
   go_wp2
   go_ret
   exact ⟨rfl, HB.out⟩
def max4 (a b c d : Int) : Int := (let m := if b > a then b else a; let n := if c > m then c else m; if d > n then d else n)
theorem max4_le (a b c d : Int) : decide (max4 a b c d ≤ mostS) = okSu (a, b, c, d) := by
 unfold max4 okSu
 simp only
 generalize mostS = M
 have e : ((if d > (if c > (if b > a then b else a) then c else (if b > a then b else a)) then d else (if c > (if b > a then b else a) then c else (if b > a then b else a))) ≤ M) ↔ (a ≤ M ∧ b ≤ M ∧ c ≤ M ∧ d ≤ M) := by
  repeat' split
  all_goals omega
 rw [Bool.eq_iff_iff]
 simp only [decide_eq_true_eq, Bool.and_eq_true]
 exact e
theorem well_any (u : Su) (w : World) : Calls Tryz.prog 94 #[agU u] w fun r w' => r = .returned (.bool (okSu u)) ∧ Below w.heap.size w w' := by
 obtain ⟨a, b, c, d⟩ := u
 unfold agU
 simp only
 have hb : Below w.heap.size w (w.alloc (.cells #[.int .i64 a, .int .i64 b, .int .i64 c, .int .i64 d] 46)) := (Below.refl _ w).alloc (Nat.le_refl _) _
 have HB : Hid (Below _ _ _) := hb
 have hmx : ∀ W, (Builtin.max_ #[3, 3, 3, 3] 3 #[.int .i64 a, .int .i64 b, .int .i64 c, .int .i64 d]).run Tryz.prog W = .ok (.int .i64 (max4 a b c d)) W := fun W => by simp [Builtin.max_, Builtin.max2, max4]
 rw [← max4_le]
 unfold mostS
 generalize max4 a b c d = m at *
 clear hb
 by_cases hm : m ≤ 65970697666560
 ·rw [decide_eq_true hm]
  go_enter Tryz.func94, Tryz.ntmps94
  go_wp2
  go_ret
  exact ⟨rfl, HB.out⟩
 ·rw [decide_eq_false hm]
  go_enter Tryz.func94, Tryz.ntmps94
  go_wp2
  go_ret
  exact ⟨rfl, HB.out⟩
theorem sums_in {k : ByteArray} (h : k = kIn) (s : Su) (n : Int) : addSu k s n = (s.1 + n, s.2.1, s.2.2.1, s.2.2.2) := by unfold addSu; rw [if_pos h]
theorem sums_more {k : ByteArray} (h : k = kMore) (s : Su) (n : Int) : addSu k s n = (s.1, s.2.1, s.2.2.1 + n, s.2.2.2) := by unfold addSu; rw [if_neg (by rw [h]; decide), if_pos h]
theorem sums_out {k : ByteArray} (h : k = kOut) (s : Su) (n : Int) : addSu k s n = (s.1, s.2.1 + n, s.2.2.1, s.2.2.2) := by unfold addSu; rw [if_neg (by rw [h]; decide), if_neg (by rw [h]; decide), if_pos h]
theorem sums_less {k : ByteArray} (h : k = kLess) (s : Su) (n : Int) : addSu k s n = (s.1, s.2.1, s.2.2.1, s.2.2.2 + n) := by unfold addSu; rw [if_neg (by rw [h]; decide), if_neg (by rw [h]; decide), if_neg (by rw [h]; decide), if_pos h]
theorem sums_else {k : ByteArray} (h1 : k ≠ kIn) (h2 : k ≠ kMore) (h3 : k ≠ kOut) (h4 : k ≠ kLess) (s : Su) (n : Int) : addSu k s n = s := by unfold addSu; rw [if_neg h1, if_neg h2, if_neg h3, if_neg h4]
theorem sumsAfter_in (u : Su) (e : En) (w : World) (hk : e.1 = kIn) (hu : (0 ≤ u.1 ∧ 0 ≤ u.2.1 ∧ 0 ≤ u.2.2.1 ∧ 0 ≤ u.2.2.2) ∧ okSu u = true) (hn : 1 ≤ e.2.2.2.2.2 ∧ e.2.2.2.2.2 ≤ 1099511627776) :
  Calls Tryz.prog 93 #[agU u, agE e] w fun r w' => r = .returned (agU (addSu e.1 u e.2.2.2.2.2)) ∧ Below w.heap.size w w' := by
 obtain ⟨⟨u1, u2, u3, u4⟩, u5⟩ := hu
 have u5' : (u.1 ≤ mostS ∧ u.2.1 ≤ mostS ∧ u.2.2.1 ≤ mostS ∧ u.2.2.2 ≤ mostS) := by unfold okSu at u5; simpa using u5
 obtain ⟨u6, u7, u8, u9⟩ := u5'
 unfold mostS at *
 obtain ⟨n1, n2⟩ := hn
 rw [sums_in hk]
 have xin : (e.1.toList == kIn.data.toList) = true := same_wordR hk
 clear hk u5
 obtain ⟨a, b, c, d⟩ := u
 obtain ⟨ak, ⟨agc, agp⟩, ⟨ali, alc, alu, alk⟩, ⟨afz, afr, afb⟩, ⟨atz, atr, atb⟩, an⟩ := e
 unfold agE agU at *
 simp only at *
 go_enter Tryz.func93, Tryz.ntmps93
 go_wp2
 refine bodyPost_ret (v := .agg #[.int .i64 (a + an), .int .i64 (b), .int .i64 (c), .int .i64 (d)]) (by simp [results, Tryz.results93, go_sem]) rfl ⟨rfl, ?_⟩
 exact (((Below.refl _ w).alloc (Nat.le_refl _) _).alloc (by simp) _).alloc (by simp; omega) _
theorem sumsAfter_out (u : Su) (e : En) (w : World) (hk : e.1 = kOut) (hu : (0 ≤ u.1 ∧ 0 ≤ u.2.1 ∧ 0 ≤ u.2.2.1 ∧ 0 ≤ u.2.2.2) ∧ okSu u = true) (hn : 1 ≤ e.2.2.2.2.2 ∧ e.2.2.2.2.2 ≤ 1099511627776) :
  Calls Tryz.prog 93 #[agU u, agE e] w fun r w' => r = .returned (agU (addSu e.1 u e.2.2.2.2.2)) ∧ Below w.heap.size w w' := by
 obtain ⟨⟨u1, u2, u3, u4⟩, u5⟩ := hu
 have u5' : (u.1 ≤ mostS ∧ u.2.1 ≤ mostS ∧ u.2.2.1 ≤ mostS ∧ u.2.2.2 ≤ mostS) := by unfold okSu at u5; simpa using u5
 obtain ⟨u6, u7, u8, u9⟩ := u5'
 unfold mostS at *
 obtain ⟨n1, n2⟩ := hn
 rw [sums_out hk]
 have xin : (e.1.toList == kIn.data.toList) = false := other_word (by rw [hk]; decide)
 have xout : (e.1.toList == kOut.data.toList) = true := same_wordR hk
 clear hk u5
 obtain ⟨a, b, c, d⟩ := u
 obtain ⟨ak, ⟨agc, agp⟩, ⟨ali, alc, alu, alk⟩, ⟨afz, afr, afb⟩, ⟨atz, atr, atb⟩, an⟩ := e
 unfold agE agU at *
 simp only at *
 go_enter Tryz.func93, Tryz.ntmps93
 go_wp2
 refine bodyPost_ret (v := .agg #[.int .i64 (a), .int .i64 (b + an), .int .i64 (c), .int .i64 (d)]) (by simp [results, Tryz.results93, go_sem]) rfl ⟨rfl, ?_⟩
 exact (((Below.refl _ w).alloc (Nat.le_refl _) _).alloc (by simp) _).alloc (by simp; omega) _
theorem sumsAfter_more (u : Su) (e : En) (w : World) (hk : e.1 = kMore) (hu : (0 ≤ u.1 ∧ 0 ≤ u.2.1 ∧ 0 ≤ u.2.2.1 ∧ 0 ≤ u.2.2.2) ∧ okSu u = true) (hn : 1 ≤ e.2.2.2.2.2 ∧ e.2.2.2.2.2 ≤ 1099511627776) :
  Calls Tryz.prog 93 #[agU u, agE e] w fun r w' => r = .returned (agU (addSu e.1 u e.2.2.2.2.2)) ∧ Below w.heap.size w w' := by
 obtain ⟨⟨u1, u2, u3, u4⟩, u5⟩ := hu
 have u5' : (u.1 ≤ mostS ∧ u.2.1 ≤ mostS ∧ u.2.2.1 ≤ mostS ∧ u.2.2.2 ≤ mostS) := by unfold okSu at u5; simpa using u5
 obtain ⟨u6, u7, u8, u9⟩ := u5'
 unfold mostS at *
 obtain ⟨n1, n2⟩ := hn
 rw [sums_more hk]
 have xin : (e.1.toList == kIn.data.toList) = false := other_word (by rw [hk]; decide)
 have xout : (e.1.toList == kOut.data.toList) = false := other_word (by rw [hk]; decide)
 have xmore : (e.1.toList == kMore.data.toList) = true := same_wordR hk
 clear hk u5
 obtain ⟨a, b, c, d⟩ := u
 obtain ⟨ak, ⟨agc, agp⟩, ⟨ali, alc, alu, alk⟩, ⟨afz, afr, afb⟩, ⟨atz, atr, atb⟩, an⟩ := e
 unfold agE agU at *
 simp only at *
 go_enter Tryz.func93, Tryz.ntmps93
 go_wp2
 refine bodyPost_ret (v := .agg #[.int .i64 (a), .int .i64 (b), .int .i64 (c + an), .int .i64 (d)]) (by simp [results, Tryz.results93, go_sem]) rfl ⟨rfl, ?_⟩
 exact (((Below.refl _ w).alloc (Nat.le_refl _) _).alloc (by simp) _).alloc (by simp; omega) _
theorem sumsAfter_less (u : Su) (e : En) (w : World) (hk : e.1 = kLess) (hu : (0 ≤ u.1 ∧ 0 ≤ u.2.1 ∧ 0 ≤ u.2.2.1 ∧ 0 ≤ u.2.2.2) ∧ okSu u = true) (hn : 1 ≤ e.2.2.2.2.2 ∧ e.2.2.2.2.2 ≤ 1099511627776) :
  Calls Tryz.prog 93 #[agU u, agE e] w fun r w' => r = .returned (agU (addSu e.1 u e.2.2.2.2.2)) ∧ Below w.heap.size w w' := by
 obtain ⟨⟨u1, u2, u3, u4⟩, u5⟩ := hu
 have u5' : (u.1 ≤ mostS ∧ u.2.1 ≤ mostS ∧ u.2.2.1 ≤ mostS ∧ u.2.2.2 ≤ mostS) := by unfold okSu at u5; simpa using u5
 obtain ⟨u6, u7, u8, u9⟩ := u5'
 unfold mostS at *
 obtain ⟨n1, n2⟩ := hn
 rw [sums_less hk]
 have xin : (e.1.toList == kIn.data.toList) = false := other_word (by rw [hk]; decide)
 have xout : (e.1.toList == kOut.data.toList) = false := other_word (by rw [hk]; decide)
 have xmore : (e.1.toList == kMore.data.toList) = false := other_word (by rw [hk]; decide)
 have xless : (e.1.toList == kLess.data.toList) = true := same_wordR hk
 clear hk u5
 obtain ⟨a, b, c, d⟩ := u
 obtain ⟨ak, ⟨agc, agp⟩, ⟨ali, alc, alu, alk⟩, ⟨afz, afr, afb⟩, ⟨atz, atr, atb⟩, an⟩ := e
 unfold agE agU at *
 simp only at *
 go_enter Tryz.func93, Tryz.ntmps93
 go_wp2
 refine bodyPost_ret (v := .agg #[.int .i64 (a), .int .i64 (b), .int .i64 (c), .int .i64 (d + an)]) (by simp [results, Tryz.results93, go_sem]) rfl ⟨rfl, ?_⟩
 exact (((Below.refl _ w).alloc (Nat.le_refl _) _).alloc (by simp) _).alloc (by simp; omega) _
theorem sumsAfter_else (u : Su) (e : En) (w : World) (h1 : e.1 ≠ kIn) (h2 : e.1 ≠ kMore) (h3 : e.1 ≠ kOut) (h4 : e.1 ≠ kLess)  :
  Calls Tryz.prog 93 #[agU u, agE e] w fun r w' => r = .returned (agU (addSu e.1 u e.2.2.2.2.2)) ∧ Below w.heap.size w w' := by
 rw [sums_else h1 h2 h3 h4]
 have xin : (e.1.toList == kIn.data.toList) = false := other_word h1
 have xout : (e.1.toList == kOut.data.toList) = false := other_word h3
 have xmore : (e.1.toList == kMore.data.toList) = false := other_word h2
 have xless : (e.1.toList == kLess.data.toList) = false := other_word h4
 clear h1 h2 h3 h4
 obtain ⟨a, b, c, d⟩ := u
 obtain ⟨ak, ⟨agc, agp⟩, ⟨ali, alc, alu, alk⟩, ⟨afz, afr, afb⟩, ⟨atz, atr, atb⟩, an⟩ := e
 unfold agE agU at *
 simp only at *
 go_enter Tryz.func93, Tryz.ntmps93
 go_wp2
 refine bodyPost_ret (v := .agg #[.int .i64 (a), .int .i64 (b), .int .i64 (c), .int .i64 (d)]) (by simp [results, Tryz.results93, go_sem]) rfl ⟨rfl, ?_⟩
 exact (((Below.refl _ w).alloc (Nat.le_refl _) _).alloc (by simp) _).alloc (by simp; omega) _
theorem sumsAfter_any (u : Su) (e : En) (w : World) (hu : (0 ≤ u.1 ∧ 0 ≤ u.2.1 ∧ 0 ≤ u.2.2.1 ∧ 0 ≤ u.2.2.2) ∧ okSu u = true) (hn : 1 ≤ e.2.2.2.2.2 ∧ e.2.2.2.2.2 ≤ 1099511627776) :
  Calls Tryz.prog 93 #[agU u, agE e] w fun r w' => r = .returned (agU (addSu e.1 u e.2.2.2.2.2)) ∧ Below w.heap.size w w' := by
 by_cases h1 : e.1 = kIn
 ·exact sumsAfter_in u e w h1 hu hn
 by_cases h2 : e.1 = kMore
 ·exact sumsAfter_more u e w h2 hu hn
 by_cases h3 : e.1 = kOut
 ·exact sumsAfter_out u e w h3 hu hn
 by_cases h4 : e.1 = kLess
 ·exact sumsAfter_less u e w h4 hu hn
 exact sumsAfter_else u e w h1 h2 h3 h4
end Go.Proofs.YteomomeigbfeoaaGreatDoor
namespace Go.Proofs.YteomomeigbfeoaaGreatDoor
open Go.RowKit Go.Lib Go.Sort Go.Shelf
theorem copyB_any (w : World) (p b : Nat) (m : List Ln) (h : IsStock w p b m) :
  Calls Tryz.prog 46 #[.pointer (some ⟨p, 0, none⟩)] w fun e w' => ∃ p' b', e = .returned (.pointer (some ⟨p', 0, none⟩)) ∧ w.heap.size ≤ p' ∧ w.heap.size ≤ b' ∧ IsStock w' p' b' m ∧ w'.heap[p']? = some (.cells #[.map (some b')] 116 (0, 0)) ∧ Below w.heap.size w w' := by
 obtain ⟨es, clock, hb, hst, hk, hp⟩ := h.map
 have hcl := AnyW.maps_Clone Tryz.laysCloneM b es clock w hb
 change Calls Tryz.prog 88 _ _ _ at hcl
 have HC : Hid (Calls Tryz.prog 88 _ _ _) := hcl
 have hc := h.cell
 have HM : Hid (MapL Tryz.prog 118 (w.alloc (.map es clock)) w.heap.size (m.map entN)) := ⟨es, clock, Go.heap_alloc_new w _, hst, hk, hp⟩
 have HW : Hid (Wf m) := h.wf
 clear hcl h hst hk hp hb
 go_enter Tryz.func46, Tryz.ntmps46
 go_wp2_with (go_at_call 88; refine HC.out.mono ?_; rintro e w1 ⟨rfl, rfl⟩)
 go_ret
 refine ⟨w.heap.size + 1, w.heap.size, by simp, by omega, Nat.le_refl _, ⟨by simp, ?_, HW.out⟩, ?_, ((Below.refl _ w).alloc (Nat.le_refl _) _).alloc (by simp) _⟩
 ·exact HM.out.below ((Below.refl (w.heap.size + 1) _).alloc (by simp) _) (by omega)
 ·have := heap_alloc_new (w.alloc (.map es clock)) (.cells #[.map (some w.heap.size)] 116)
  simpa using this
structure NewSt (w w' : World) (p b : Nat) (m : List Ln) : Prop where
 st : IsStock w' p b m
 blk : w'.heap[p]? = some (.cells #[.map (some b)] 116 (0, 0))
 lp : w.heap.size ≤ p
 lb : w.heap.size ≤ b
 below : Below w.heap.size w w'
theorem NewSt.turn {w w1 w2 : World} {p b : Nat} {m m' : List Ln} (h : NewSt w w1 p b m) (hs : IsStock w2 p b m') (hg : w1.grownBy w2 (some b)) : NewSt w w2 p b m' where
 st := hs
 blk := (hg.block p h.st.lt.1 (fun e => h.st.ne (by injection e))).trans h.blk
 lp := h.lp
 lb := h.lb
 below := h.below.trans ⟨hg.os, hg.tape, hg.output, hg.size, fun k hk => hg.block k (Nat.lt_of_lt_of_le hk h.below.size) (fun e => by injection e with e; have := h.lb; omega)⟩
theorem stkAft_in (w : World) (s : Nat → Addr) (q r : Nat) (m : List Ln) (e : En) (h : IsStock w q r m) (hk : e.1 = kIn) (hz : SzE e) (hs : Five w s) :
  Calls Tryz.prog 91 #[.pointer (some ⟨q, 0, none⟩), agE e] w fun r w' => ∃ p' b', r = .returned (.tuple #[.pointer (some ⟨p', 0, none⟩), errP s (putE m e.2.2.2.2.1 e.2.2.1.1 e.2.2.2.2.2)]) ∧ NewSt w w' p' b' (putL m e.2.2.2.2.1 e.2.2.1.1 e.2.2.2.2.2) := by
 have hE := BlkE.new w e
 have hb : Below w.heap.size w (w.alloc (celE e)) := (Below.refl _ w).alloc (Nat.le_refl _) _
 have HC : Hid (Calls Tryz.prog 46 _ _ _) := copyB_any (w.alloc (celE e)) q r m (h.all hb)
 have HE : Hid (BlkE _ _ _) := hE
 have HB : Hid (Below _ _ _) := hb
 have HP : Hid (∀ W p b, IsStock W p b m → Below w.heap.size w W → Calls Tryz.prog 116 #[.pointer (some ⟨p, 0, none⟩), agP e.2.2.2.2.1, .string e.2.2.1.1, .int .i64 e.2.2.2.2.2] W fun r w' => r = .returned (errP s (putE m e.2.2.2.2.1 e.2.2.1.1 e.2.2.2.2.2)) ∧ IsStock w' p b (putL m e.2.2.2.2.1 e.2.2.1.1 e.2.2.2.2.2) ∧ W.grownBy w' (some b)) := fun W p b hi hb => put_any e.2.2.2.2.1 e.2.2.1.1 e.2.2.2.2.2 W s p b m hi hz.tz hz.li (hs.below hb)
 have xin : (e.1.toList == kIn.data.toList) = true := same_wordR hk
 clear hE hb h hk hz hs
 obtain ⟨ak, ⟨agc, agp⟩, ⟨ali, alc, alu, alk⟩, ⟨afz, afr, afb⟩, ⟨atz, atr, atb⟩, an⟩ := e
 unfold agE celE agP at *
 simp only at *
 generalize putE m (atz, atr, atb) ali an = E at *
 generalize (putL m (atz, atr, atb) ali an) = M at *
 go_enter Tryz.func91, Tryz.ntmps91
 go_wp2_with (first
  | (go_at_call 46; refine HC.out.mono ?_; rintro r w1 ⟨p', b', rfl, hp', hb', hS, hblk, hb1⟩; have hE1 := HE.out.below hb1; obtain ⟨c0, c1, c2, c3, c4, c5, c6, c7, c8, c9, c10, c11, c12, c13⟩ := hE1.at; simp only at c0 c1 c2 c3 c4 c5 c6 c7 c8 c9 c10 c11 c12 c13; have HN : Hid (NewSt w w1 p' b' m) := ⟨hS, hblk, Nat.le_trans HB.out.size hp', Nat.le_trans HB.out.size hb', HB.out.trans (hb1.mono HB.out.size)⟩; clear hp' hb' hblk hb1 hE1 hS)
  | (go_at_call 116; refine (HP.out _ _ _ HN.out.st HN.out.below).mono ?_; rintro r w2 ⟨rfl, hS2, hg2⟩))
 exact bodyPost_ret (v := .tuple #[.pointer (some ⟨p', 0, none⟩), errP s E]) (by simp [results, Tryz.results91, go_sem]) rfl ⟨p', b', rfl, HN.out.turn hS2 hg2⟩
theorem stkAft_more (w : World) (s : Nat → Addr) (q r : Nat) (m : List Ln) (e : En) (h : IsStock w q r m) (hk : e.1 = kMore) (hz : SzE e) (hs : Five w s) :
  Calls Tryz.prog 91 #[.pointer (some ⟨q, 0, none⟩), agE e] w fun r w' => ∃ p' b', r = .returned (.tuple #[.pointer (some ⟨p', 0, none⟩), errP s (putE m e.2.2.2.2.1 e.2.2.1.1 e.2.2.2.2.2)]) ∧ NewSt w w' p' b' (putL m e.2.2.2.2.1 e.2.2.1.1 e.2.2.2.2.2) := by
 have hE := BlkE.new w e
 have hb : Below w.heap.size w (w.alloc (celE e)) := (Below.refl _ w).alloc (Nat.le_refl _) _
 have HC : Hid (Calls Tryz.prog 46 _ _ _) := copyB_any (w.alloc (celE e)) q r m (h.all hb)
 have HE : Hid (BlkE _ _ _) := hE
 have HB : Hid (Below _ _ _) := hb
 have HP : Hid (∀ W p b, IsStock W p b m → Below w.heap.size w W → Calls Tryz.prog 116 #[.pointer (some ⟨p, 0, none⟩), agP e.2.2.2.2.1, .string e.2.2.1.1, .int .i64 e.2.2.2.2.2] W fun r w' => r = .returned (errP s (putE m e.2.2.2.2.1 e.2.2.1.1 e.2.2.2.2.2)) ∧ IsStock w' p b (putL m e.2.2.2.2.1 e.2.2.1.1 e.2.2.2.2.2) ∧ W.grownBy w' (some b)) := fun W p b hi hb => put_any e.2.2.2.2.1 e.2.2.1.1 e.2.2.2.2.2 W s p b m hi hz.tz hz.li (hs.below hb)
 have xin : (e.1.toList == kIn.data.toList) = false := other_word (by rw [hk]; decide)
 have xmore : (e.1.toList == kMore.data.toList) = true := same_wordR hk
 clear hE hb h hk hz hs
 obtain ⟨ak, ⟨agc, agp⟩, ⟨ali, alc, alu, alk⟩, ⟨afz, afr, afb⟩, ⟨atz, atr, atb⟩, an⟩ := e
 unfold agE celE agP at *
 simp only at *
 generalize putE m (atz, atr, atb) ali an = E at *
 generalize (putL m (atz, atr, atb) ali an) = M at *
 go_enter Tryz.func91, Tryz.ntmps91
 go_wp2_with (first
  | (go_at_call 46; refine HC.out.mono ?_; rintro r w1 ⟨p', b', rfl, hp', hb', hS, hblk, hb1⟩; have hE1 := HE.out.below hb1; obtain ⟨c0, c1, c2, c3, c4, c5, c6, c7, c8, c9, c10, c11, c12, c13⟩ := hE1.at; simp only at c0 c1 c2 c3 c4 c5 c6 c7 c8 c9 c10 c11 c12 c13; have HN : Hid (NewSt w w1 p' b' m) := ⟨hS, hblk, Nat.le_trans HB.out.size hp', Nat.le_trans HB.out.size hb', HB.out.trans (hb1.mono HB.out.size)⟩; clear hp' hb' hblk hb1 hE1 hS)
  | (go_at_call 116; refine (HP.out _ _ _ HN.out.st HN.out.below).mono ?_; rintro r w2 ⟨rfl, hS2, hg2⟩))
 exact bodyPost_ret (v := .tuple #[.pointer (some ⟨p', 0, none⟩), errP s E]) (by simp [results, Tryz.results91, go_sem]) rfl ⟨p', b', rfl, HN.out.turn hS2 hg2⟩
theorem stkAft_out (w : World) (s : Nat → Addr) (q r : Nat) (m : List Ln) (e : En) (h : IsStock w q r m) (hk : e.1 = kOut) (hkey : KeyOk (e.2.2.2.1, e.2.2.1.1)) (hs : Five w s) :
  Calls Tryz.prog 91 #[.pointer (some ⟨q, 0, none⟩), agE e] w fun r w' => ∃ p' b', r = .returned (.tuple #[.pointer (some ⟨p', 0, none⟩), errP s (takeE m (e.2.2.2.1, e.2.2.1.1) e.2.2.2.2.2)]) ∧ NewSt w w' p' b' (takeL m (e.2.2.2.1, e.2.2.1.1) e.2.2.2.2.2) := by
 have hE := BlkE.new w e
 have hb : Below w.heap.size w (w.alloc (celE e)) := (Below.refl _ w).alloc (Nat.le_refl _) _
 have HC : Hid (Calls Tryz.prog 46 _ _ _) := copyB_any (w.alloc (celE e)) q r m (h.all hb)
 have HE : Hid (BlkE _ _ _) := hE
 have HB : Hid (Below _ _ _) := hb
 have HP : Hid (∀ W p b, IsStock W p b m → Below w.heap.size w W → Calls Tryz.prog 138 #[.pointer (some ⟨p, 0, none⟩), agP e.2.2.2.1, .string e.2.2.1.1, .int .i64 e.2.2.2.2.2] W fun r w' => r = .returned (errP s (takeE m (e.2.2.2.1, e.2.2.1.1) e.2.2.2.2.2)) ∧ IsStock w' p b (takeL m (e.2.2.2.1, e.2.2.1.1) e.2.2.2.2.2) ∧ W.grownBy w' (some b)) := fun W p b hi hb => take_any e.2.2.2.1 e.2.2.1.1 e.2.2.2.2.2 W s p b m hi hkey (hs.below hb)
 have xin : (e.1.toList == kIn.data.toList) = false := other_word (by rw [hk]; decide)
 have xmore : (e.1.toList == kMore.data.toList) = false := other_word (by rw [hk]; decide)
 have xout : (e.1.toList == kOut.data.toList) = true := same_wordR hk
 clear hE hb h hk hkey hs
 obtain ⟨ak, ⟨agc, agp⟩, ⟨ali, alc, alu, alk⟩, ⟨afz, afr, afb⟩, ⟨atz, atr, atb⟩, an⟩ := e
 unfold agE celE agP at *
 simp only at *
 generalize takeE m ((afz, afr, afb), ali) an = E at *
 generalize (takeL m ((afz, afr, afb), ali) an) = M at *
 go_enter Tryz.func91, Tryz.ntmps91
 go_wp2_with (first
  | (go_at_call 46; refine HC.out.mono ?_; rintro r w1 ⟨p', b', rfl, hp', hb', hS, hblk, hb1⟩; have hE1 := HE.out.below hb1; obtain ⟨c0, c1, c2, c3, c4, c5, c6, c7, c8, c9, c10, c11, c12, c13⟩ := hE1.at; simp only at c0 c1 c2 c3 c4 c5 c6 c7 c8 c9 c10 c11 c12 c13; have HN : Hid (NewSt w w1 p' b' m) := ⟨hS, hblk, Nat.le_trans HB.out.size hp', Nat.le_trans HB.out.size hb', HB.out.trans (hb1.mono HB.out.size)⟩; clear hp' hb' hblk hb1 hE1 hS)
  | (go_at_call 138; refine (HP.out _ _ _ HN.out.st HN.out.below).mono ?_; rintro r w2 ⟨rfl, hS2, hg2⟩))
 exact bodyPost_ret (v := .tuple #[.pointer (some ⟨p', 0, none⟩), errP s E]) (by simp [results, Tryz.results91, go_sem]) rfl ⟨p', b', rfl, HN.out.turn hS2 hg2⟩
theorem stkAft_less (w : World) (s : Nat → Addr) (q r : Nat) (m : List Ln) (e : En) (h : IsStock w q r m) (hk : e.1 = kLess) (hkey : KeyOk (e.2.2.2.1, e.2.2.1.1)) (hs : Five w s) :
  Calls Tryz.prog 91 #[.pointer (some ⟨q, 0, none⟩), agE e] w fun r w' => ∃ p' b', r = .returned (.tuple #[.pointer (some ⟨p', 0, none⟩), errP s (takeE m (e.2.2.2.1, e.2.2.1.1) e.2.2.2.2.2)]) ∧ NewSt w w' p' b' (takeL m (e.2.2.2.1, e.2.2.1.1) e.2.2.2.2.2) := by
 have hE := BlkE.new w e
 have hb : Below w.heap.size w (w.alloc (celE e)) := (Below.refl _ w).alloc (Nat.le_refl _) _
 have HC : Hid (Calls Tryz.prog 46 _ _ _) := copyB_any (w.alloc (celE e)) q r m (h.all hb)
 have HE : Hid (BlkE _ _ _) := hE
 have HB : Hid (Below _ _ _) := hb
 have HP : Hid (∀ W p b, IsStock W p b m → Below w.heap.size w W → Calls Tryz.prog 138 #[.pointer (some ⟨p, 0, none⟩), agP e.2.2.2.1, .string e.2.2.1.1, .int .i64 e.2.2.2.2.2] W fun r w' => r = .returned (errP s (takeE m (e.2.2.2.1, e.2.2.1.1) e.2.2.2.2.2)) ∧ IsStock w' p b (takeL m (e.2.2.2.1, e.2.2.1.1) e.2.2.2.2.2) ∧ W.grownBy w' (some b)) := fun W p b hi hb => take_any e.2.2.2.1 e.2.2.1.1 e.2.2.2.2.2 W s p b m hi hkey (hs.below hb)
 have xin : (e.1.toList == kIn.data.toList) = false := other_word (by rw [hk]; decide)
 have xmore : (e.1.toList == kMore.data.toList) = false := other_word (by rw [hk]; decide)
 have xout : (e.1.toList == kOut.data.toList) = false := other_word (by rw [hk]; decide)
 have xless : (e.1.toList == kLess.data.toList) = true := same_wordR hk
 clear hE hb h hk hkey hs
 obtain ⟨ak, ⟨agc, agp⟩, ⟨ali, alc, alu, alk⟩, ⟨afz, afr, afb⟩, ⟨atz, atr, atb⟩, an⟩ := e
 unfold agE celE agP at *
 simp only at *
 generalize takeE m ((afz, afr, afb), ali) an = E at *
 generalize (takeL m ((afz, afr, afb), ali) an) = M at *
 go_enter Tryz.func91, Tryz.ntmps91
 go_wp2_with (first
  | (go_at_call 46; refine HC.out.mono ?_; rintro r w1 ⟨p', b', rfl, hp', hb', hS, hblk, hb1⟩; have hE1 := HE.out.below hb1; obtain ⟨c0, c1, c2, c3, c4, c5, c6, c7, c8, c9, c10, c11, c12, c13⟩ := hE1.at; simp only at c0 c1 c2 c3 c4 c5 c6 c7 c8 c9 c10 c11 c12 c13; have HN : Hid (NewSt w w1 p' b' m) := ⟨hS, hblk, Nat.le_trans HB.out.size hp', Nat.le_trans HB.out.size hb', HB.out.trans (hb1.mono HB.out.size)⟩; clear hp' hb' hblk hb1 hE1 hS)
  | (go_at_call 138; refine (HP.out _ _ _ HN.out.st HN.out.below).mono ?_; rintro r w2 ⟨rfl, hS2, hg2⟩))
 exact bodyPost_ret (v := .tuple #[.pointer (some ⟨p', 0, none⟩), errP s E]) (by simp [results, Tryz.results91, go_sem]) rfl ⟨p', b', rfl, HN.out.turn hS2 hg2⟩
theorem stkAft_move (w : World) (s : Nat → Addr) (q r : Nat) (m : List Ln) (e : En) (h : IsStock w q r m) (hk : e.1 = kMove) (hz : SzE e) (hkey : KeyOk (e.2.2.2.1, e.2.2.1.1)) (hs : Five w s) :
  Calls Tryz.prog 91 #[.pointer (some ⟨q, 0, none⟩), agE e] w fun r w' => ∃ p' b', r = .returned (.tuple #[.pointer (some ⟨p', 0, none⟩), errP s (moveE m e.2.2.2.1 e.2.2.2.2.1 e.2.2.1.1 e.2.2.2.2.2)]) ∧ NewSt w w' p' b' (moveL m e.2.2.2.1 e.2.2.2.2.1 e.2.2.1.1 e.2.2.2.2.2) := by
 have hE := BlkE.new w e
 have hb : Below w.heap.size w (w.alloc (celE e)) := (Below.refl _ w).alloc (Nat.le_refl _) _
 have HC : Hid (Calls Tryz.prog 46 _ _ _) := copyB_any (w.alloc (celE e)) q r m (h.all hb)
 have HE : Hid (BlkE _ _ _) := hE
 have HB : Hid (Below _ _ _) := hb
 have HP : Hid (∀ W p b, IsStock W p b m → Below w.heap.size w W → Calls Tryz.prog 139 #[.pointer (some ⟨p, 0, none⟩), agP e.2.2.2.1, agP e.2.2.2.2.1, .string e.2.2.1.1, .int .i64 e.2.2.2.2.2] W fun r w' => r = .returned (errP s (moveE m e.2.2.2.1 e.2.2.2.2.1 e.2.2.1.1 e.2.2.2.2.2)) ∧ IsStock w' p b (moveL m e.2.2.2.1 e.2.2.2.2.1 e.2.2.1.1 e.2.2.2.2.2) ∧ W.grownBy w' (some b)) := fun W p b hi hb => move_any e.2.2.2.1 e.2.2.2.2.1 e.2.2.1.1 e.2.2.2.2.2 W s p b m hi hkey hz.tz hz.li (hs.below hb)
 have xin : (e.1.toList == kIn.data.toList) = false := other_word (by rw [hk]; decide)
 have xmore : (e.1.toList == kMore.data.toList) = false := other_word (by rw [hk]; decide)
 have xout : (e.1.toList == kOut.data.toList) = false := other_word (by rw [hk]; decide)
 have xless : (e.1.toList == kLess.data.toList) = false := other_word (by rw [hk]; decide)
 have xmove : (e.1.toList == kMove.data.toList) = true := same_wordR hk
 clear hE hb h hk hz hkey hs
 obtain ⟨ak, ⟨agc, agp⟩, ⟨ali, alc, alu, alk⟩, ⟨afz, afr, afb⟩, ⟨atz, atr, atb⟩, an⟩ := e
 unfold agE celE agP at *
 simp only at *
 generalize moveE m (afz, afr, afb) (atz, atr, atb) ali an = E at *
 generalize (moveL m (afz, afr, afb) (atz, atr, atb) ali an) = M at *
 go_enter Tryz.func91, Tryz.ntmps91
 go_wp2_with (first
  | (go_at_call 46; refine HC.out.mono ?_; rintro r w1 ⟨p', b', rfl, hp', hb', hS, hblk, hb1⟩; have hE1 := HE.out.below hb1; obtain ⟨c0, c1, c2, c3, c4, c5, c6, c7, c8, c9, c10, c11, c12, c13⟩ := hE1.at; simp only at c0 c1 c2 c3 c4 c5 c6 c7 c8 c9 c10 c11 c12 c13; have HN : Hid (NewSt w w1 p' b' m) := ⟨hS, hblk, Nat.le_trans HB.out.size hp', Nat.le_trans HB.out.size hb', HB.out.trans (hb1.mono HB.out.size)⟩; clear hp' hb' hblk hb1 hE1 hS)
  | (go_at_call 139; refine (HP.out _ _ _ HN.out.st HN.out.below).mono ?_; rintro r w2 ⟨rfl, hS2, hg2⟩))
 exact bodyPost_ret (v := .tuple #[.pointer (some ⟨p', 0, none⟩), errP s E]) (by simp [results, Tryz.results91, go_sem]) rfl ⟨p', b', rfl, HN.out.turn hS2 hg2⟩
theorem stkAft_else (w : World) (s : Nat → Addr) (q r : Nat) (m : List Ln) (e : En) (h : IsStock w q r m) (h1 : e.1 ≠ kIn) (h2 : e.1 ≠ kMore) (h3 : e.1 ≠ kOut) (h4 : e.1 ≠ kLess) (h5 : e.1 ≠ kMove) :
  Calls Tryz.prog 91 #[.pointer (some ⟨q, 0, none⟩), agE e] w fun r w' => ∃ p' b', r = .returned (.tuple #[.pointer (some ⟨p', 0, none⟩), errP s (0)]) ∧ NewSt w w' p' b' m := by
 have hE := BlkE.new w e
 have hb : Below w.heap.size w (w.alloc (celE e)) := (Below.refl _ w).alloc (Nat.le_refl _) _
 have HC : Hid (Calls Tryz.prog 46 _ _ _) := copyB_any (w.alloc (celE e)) q r m (h.all hb)
 have HE : Hid (BlkE _ _ _) := hE
 have HB : Hid (Below _ _ _) := hb
 have xin : (e.1.toList == kIn.data.toList) = false := other_word h1
 have xmore : (e.1.toList == kMore.data.toList) = false := other_word h2
 have xout : (e.1.toList == kOut.data.toList) = false := other_word h3
 have xless : (e.1.toList == kLess.data.toList) = false := other_word h4
 have xmove : (e.1.toList == kMove.data.toList) = false := other_word h5
 clear hE hb h h1 h2 h3 h4 h5
 obtain ⟨ak, ⟨agc, agp⟩, ⟨ali, alc, alu, alk⟩, ⟨afz, afr, afb⟩, ⟨atz, atr, atb⟩, an⟩ := e
 unfold agE celE at *
 simp only at *
 go_enter Tryz.func91, Tryz.ntmps91
 go_wp2_with (first
  | (go_at_call 46; refine HC.out.mono ?_; rintro r w1 ⟨p', b', rfl, hp', hb', hS, hblk, hb1⟩; have hE1 := HE.out.below hb1; obtain ⟨c0, c1, c2, c3, c4, c5, c6, c7, c8, c9, c10, c11, c12, c13⟩ := hE1.at; simp only at c0 c1 c2 c3 c4 c5 c6 c7 c8 c9 c10 c11 c12 c13; have HN : Hid (NewSt w w1 p' b' m) := ⟨hS, hblk, Nat.le_trans HB.out.size hp', Nat.le_trans HB.out.size hb', HB.out.trans (hb1.mono HB.out.size)⟩; clear hp' hb' hblk hb1 hE1 hS))
 exact bodyPost_ret (v := .tuple #[.pointer (some ⟨p', 0, none⟩), .nilIface]) (by simp [results, Tryz.results91, go_sem]) rfl ⟨p', b', rfl, HN.out⟩
theorem stockAfter_any (w : World) (s : Nat → Addr) (q r : Nat) (m : List Ln) (e : En) (h : IsStock w q r m) (hz : SzE e) (hs : Five w s) (he : entErr e = 0) (h1 : e.1 ≠ kGoods) (h2 : e.1 ≠ kLot) :
  Calls Tryz.prog 91 #[.pointer (some ⟨q, 0, none⟩), agE e] w fun r w' => ∃ p' b', r = .returned (.tuple #[.pointer (some ⟨p', 0, none⟩), errP s (stkE e m)]) ∧ NewSt w w' p' b' (stkL e m) := by
 have ho := (entErr_own he).1
 unfold stkE stkL
 rcases kind_cases e.1 with hk | hk | (hk | hk) | (hk | hk) | hk | (hk | hk) | hk
 ·exact absurd hk h1
 ·exact absurd hk h2
 ·have := stkAft_in w s q r m e h hk hz hs
  rw [hk, kd_in]; exact this
 ·have := stkAft_more w s q r m e h hk hz hs
  rw [hk, kd_more]; exact this
 ·have hkey : KeyOk (e.2.2.2.1, e.2.2.1.1) := keyOk_of (by unfold ownErr at ho; rw [hk, kd_out] at ho; exact (pieceErr_zero ho).2.1) hz.fz hz.li
  have := stkAft_out w s q r m e h hk hkey hs
  rw [hk, kd_out]; exact this
 ·have hkey : KeyOk (e.2.2.2.1, e.2.2.1.1) := keyOk_of (by unfold ownErr at ho; rw [hk, kd_less] at ho; exact (pieceErr_zero ho).2.1) hz.fz hz.li
  have := stkAft_less w s q r m e h hk hkey hs
  rw [hk, kd_less]; exact this
 ·have hkey : KeyOk (e.2.2.2.1, e.2.2.1.1) := keyOk_of (by unfold ownErr at ho; rw [hk, kd_move] at ho; exact (pieceErr_zero ho).2.1) hz.fz hz.li
  have := stkAft_move w s q r m e h hk hz hkey hs
  rw [hk, kd_move]; exact this
 ·have := stkAft_else w s q r m e h (by rw [hk]; decide) (by rw [hk]; decide) (by rw [hk]; decide) (by rw [hk]; decide) (by rw [hk]; decide)
  rw [hk, kd_hold]; exact this
 ·have := stkAft_else w s q r m e h (by rw [hk]; decide) (by rw [hk]; decide) (by rw [hk]; decide) (by rw [hk]; decide) (by rw [hk]; decide)
  rw [hk, kd_free]; exact this
 ·unfold ownErr at ho
  rw [hk.kd] at ho
  simp at ho
end Go.Proofs.YteomomeigbfeoaaGreatDoor
namespace Go.Proofs.YteomomeigbfeoaaGreatDoor
open Go.RowKit Go.Lib Go.Sort
open Go.Maps (Keyed)
theorem addG_exist (g : Gd) (w : World) (s : Nat → Addr) (B : Nat) (x : Bl) (b : Bk) (h : IsBk w B x b) (hz : g.1.size ≤ maxLen) (hs : Bs w s) (y : Gs) (hy : y ∈ b.1) (hyg : nameG y = g.1) :
  Calls Tryz.prog 48 #[.pointer (some ⟨x.p, 0, none⟩), agG g] w fun e w' => e = .returned (errP s 7) ∧ IsBk w' B x b ∧ Off x.all w w' := by
 obtain ⟨gc, gp⟩ := g
 simp only at hz hyg
 unfold agG
 simp only
 have hb1 : Below w.heap.size w (w.alloc (.cells #[.string gc, .int .i64 gp] 24)) := (Below.refl _ w).alloc (Nat.le_refl _) _
 have n1 := heap_alloc_new w (.cells #[.string gc, .int .i64 gp] 24)
 obtain ⟨ps, bs, h⟩ := h
 have h1 := h.all hb1
 have hs1 := hs.below hb1
 have hq := h1.drew.askG_yes hz hy hyg
 obtain ⟨W, hW⟩ : ∃ W, w.alloc (.cells #[.string gc, .int .i64 gp] 24) = W := ⟨_, rfl⟩
 rw [hW] at hb1 n1 h1 hs1 hq
 obtain ⟨c0, _⟩ := h1.cells
 have c1 : W.cell? ⟨w.heap.size, 0, none⟩ = some (.string gc) := by rw [cell_of_heap n1]; rfl
 obtain ⟨⟨yc, yp⟩, ys⟩ := y
 simp only at hq
 obtain ⟨V1, V2, V3, e1, e2, e3, ⟨k1, k2, k3⟩, ⟨k4, k5⟩, _, kb1, kb2, kb3⟩ := boxed2 W.drew (.string ⟨#[]⟩) (.int .i64 0) (.string yc) (.int .i64 yp) 24
 have zd : W.drew.heap.size = W.heap.size := rfl
 rw [zd] at e2 e3 k1 k2 k3 k4 k5
 have hbW : Below w.heap.size w V1 := hb1.trans (((Below.refl _ W).drew.trans (kb1.mono (Nat.le_refl _))).mono hb1.size)
 have hq1 := (h.all hbW).askG_yes hz hy hyg
 simp only at hq1
 obtain ⟨c2, _⟩ := (h.all hbW).cells
 have c3 : V1.cell? ⟨w.heap.size, 0, none⟩ = some (.string gc) := (kb1.cell (p := ⟨w.heap.size, 0, none⟩) (cell_lt c1)).trans c1
 have hbV : Below w.heap.size w V3 := hb1.trans (((Below.refl _ W).drew.trans (kb3.mono (Nat.le_refl _))).mono hb1.size)
 have hsV : V3.cell? ⟨4, 0, none⟩ = some (err (s 6)) := (hs.below hbV).exist
 have HF : Hid (IsBk V3 B x b ∧ Off x.all w V3) := ⟨⟨ps, bs, h.all hbV⟩, Off.of_below hbV⟩
 clear kb1 kb2 kb3 hbV hbW hs1 h1 hb1 n1 h hs zd
 go_enter Tryz.func48, Tryz.ntmps48
 go_wp2
 go_region
 go_wp2
 go_ret
 exact ⟨rfl, HF.out⟩
theorem BkAt.apart {w : World} {B : Nat} {x : Bl} {ps bs : Nat} {b : Bk} (h : BkAt w B x ps bs b) : (x.p ≠ x.g ∧ x.p ≠ x.u ∧ x.p ≠ x.l ∧ x.p ≠ x.h ∧ x.p ≠ bs) ∧ (ps ≠ x.g ∧ ps ≠ x.u ∧ ps ≠ x.l ∧ ps ≠ x.h) ∧ (x.g ≠ x.u ∧ x.g ≠ x.l ∧ x.g ≠ x.h ∧ x.g ≠ bs ∧ x.u ≠ x.l ∧ x.u ≠ x.h ∧ x.u ≠ bs ∧ x.l ≠ x.h ∧ x.l ≠ bs ∧ x.h ≠ bs) := by
 obtain ⟨c0, _⟩ := h.cells
 have := h.gu; have := h.ul; have := h.lh; have := h.hs
 exact ⟨⟨h.G.ne_of_cells c0, h.U.ne_of_cells c0, h.L.ne_of_cells c0, h.H.ne_of_cells c0, h.S.map.ne_of_cells c0⟩, ⟨h.G.ne_of_cells h.S.cell, h.U.ne_of_cells h.S.cell, h.L.ne_of_cells h.S.cell, h.H.ne_of_cells h.S.cell⟩, by omega⟩
theorem BkAt.goods {V W : World} {B : Nat} {x : Bl} {ps bs : Nat} {b : Bk} (h : BkAt V B x ps bs b) {g : Gd} (h0 : goodsE b g = 0) (hg : MapL Tryz.prog 9 W x.g ((insC nameG b.1 (g, zeroSu)).map entG)) (hu : MapL Tryz.prog 9 W x.u ((insC nameG b.1 (g, zeroSu)).map entU)) (hk : ∀ c, c ≠ x.g → c ≠ x.u → W.heap[c]? = V.heap[c]?) : BkAt W B x ps bs (goodsB b g) := by
 obtain ⟨⟨a1, a2, a3, a4, a5⟩, ⟨a6, a7, a8, a9⟩, d1, d2, d3, d4, d5, d6, d7, d8, d9, d10⟩ := h.apart
 exact { blk := (hk _ a1 a2).trans h.blk, G := hg, U := hu, L := h.L.of_block (hk _ d2.symm d5.symm), H := h.H.of_block (hk _ d3.symm d6.symm), sblk := (hk _ a6 a7).trans h.sblk, S := h.S.of_blocks (hk _ a6 a7) (hk _ d4.symm d7.symm), ok := h.ok.goods h0, bp := h.bp, bg := h.bg, gu := h.gu, ul := h.ul, lh := h.lh, hs := h.hs, bs := h.bs }
theorem addG_full (g : Gd) (w : World) (s : Nat → Addr) (B : Nat) (x : Bl) (b : Bk) (h : IsBk w B x b) (hz : g.1.size ≤ maxLen) (hs : Bs w s) (hn : ∀ y ∈ b.1, nameG y ≠ g.1) (hf : 30 ≤ b.1.length) :
  Calls Tryz.prog 48 #[.pointer (some ⟨x.p, 0, none⟩), agG g] w fun e w' => e = .returned (errP s 8) ∧ IsBk w' B x b ∧ Off x.all w w' := by
 obtain ⟨gc, gp⟩ := g
 simp only at hz hn
 unfold agG
 simp only
 have hb1 : Below w.heap.size w (w.alloc (.cells #[.string gc, .int .i64 gp] 24)) := (Below.refl _ w).alloc (Nat.le_refl _) _
 have n1 := heap_alloc_new w (.cells #[.string gc, .int .i64 gp] 24)
 obtain ⟨ps, bs, h⟩ := h
 have h1 := h.all hb1
 have hq := h1.drew.askG_no hz hn
 obtain ⟨W, hW⟩ : ∃ W, w.alloc (.cells #[.string gc, .int .i64 gp] 24) = W := ⟨_, rfl⟩
 rw [hW] at hb1 n1 h1 hq
 obtain ⟨c0, _⟩ := h1.cells
 have c1 : W.cell? ⟨w.heap.size, 0, none⟩ = some (.string gc) := by rw [cell_of_heap n1]; rfl
 obtain ⟨V1, V2, V3, e1, e2, e3, ⟨k1, k2, k3⟩, ⟨k4, k5⟩, _, kb1, kb2, kb3⟩ := boxed2 W.drew (.string ⟨#[]⟩) (.int .i64 0) (.string ⟨#[]⟩) (.int .i64 0) 24
 have zd : W.drew.heap.size = W.heap.size := rfl
 rw [zd] at e2 e3 k1 k2 k3 k4 k5
 have hbW : Below w.heap.size w V1 := hb1.trans (((Below.refl _ W).drew.trans (kb1.mono (Nat.le_refl _))).mono hb1.size)
 have hq1 := (h.all hbW).askG_no hz hn
 obtain ⟨c2, _⟩ := (h.all hbW).cells
 have c3 : V1.cell? ⟨w.heap.size, 0, none⟩ = some (.string gc) := (kb1.cell (p := ⟨w.heap.size, 0, none⟩) (cell_lt c1)).trans c1
 have hbV : Below w.heap.size w V3 := hb1.trans (((Below.refl _ W).drew.trans (kb3.mono (Nat.le_refl _))).mono hb1.size)
 have hsV : V3.cell? ⟨5, 0, none⟩ = some (err (s 7)) := (hs.below hbV).five.full
 have hm := (h.all hbV).G
 obtain ⟨ln, hln⟩ : ∃ ln, (b.1.map entG).length = ln := ⟨_, rfl⟩
 have hl30 : 30 ≤ ln := by rw [← hln]; simpa using hf
 have hl99 : ln ≤ 30 := by rw [← hln]; simpa using h.ok.wf.gl
 obtain ⟨c4, _⟩ := (h.all hbV).cells
 have HF : Hid (IsBk V3 B x b ∧ Off x.all w V3) := ⟨⟨ps, bs, h.all hbV⟩, Off.of_below hbV⟩
 clear kb1 kb2 kb3 hbV hbW h1 hb1 n1 h hs zd hf
 go_enter Tryz.func48, Tryz.ntmps48
 go_wp2
 go_region
 go_wp2_with (at_len; refine wpL_len rfl _ 90 rfl 9 24 Tryz.underlying90 x.g _ ln hln rfl hm ?_)
 go_ret
 exact ⟨rfl, HF.out⟩
theorem addG_ok (g : Gd) (w : World) (s : Nat → Addr) (B : Nat) (x : Bl) (b : Bk) (h : IsBk w B x b) (hz : g.1.size ≤ maxLen) (hn : ∀ y ∈ b.1, nameG y ≠ g.1) (hf : b.1.length < 30) (h0 : goodsE b g = 0) :
  Calls Tryz.prog 48 #[.pointer (some ⟨x.p, 0, none⟩), agG g] w fun e w' => e = .returned (errP s 0) ∧ IsBk w' B x (goodsB b g) ∧ Off x.all w w' := by
 obtain ⟨gc, gp⟩ := g
 simp only at hz hn
 unfold agG
 simp only
 have hb1 : Below w.heap.size w (w.alloc (.cells #[.string gc, .int .i64 gp] 24)) := (Below.refl _ w).alloc (Nat.le_refl _) _
 have n1 := heap_alloc_new w (.cells #[.string gc, .int .i64 gp] 24)
 obtain ⟨ps, bs, h⟩ := h
 have h1 := h.all hb1
 have hq := h1.drew.askG_no hz hn
 obtain ⟨W, hW⟩ : ∃ W, w.alloc (.cells #[.string gc, .int .i64 gp] 24) = W := ⟨_, rfl⟩
 rw [hW] at hb1 n1 h1 hq
 obtain ⟨c0, _⟩ := h1.cells
 have c1 : W.cell? ⟨w.heap.size, 0, none⟩ = some (.string gc) := by rw [cell_of_heap n1]; rfl
 obtain ⟨V1, V2, V3, e1, e2, e3, ⟨k1, k2, k3⟩, ⟨k4, k5⟩, _, kb1, kb2, kb3⟩ := boxed2 W.drew (.string ⟨#[]⟩) (.int .i64 0) (.string ⟨#[]⟩) (.int .i64 0) 24
 have zd : W.drew.heap.size = W.heap.size := rfl
 rw [zd] at e2 e3 k1 k2 k3 k4 k5
 have hbW : Below w.heap.size w V1 := hb1.trans (((Below.refl _ W).drew.trans (kb1.mono (Nat.le_refl _))).mono hb1.size)
 have hq1 := (h.all hbW).askG_no hz hn
 obtain ⟨c2, _⟩ := (h.all hbW).cells
 have c3 : V1.cell? ⟨w.heap.size, 0, none⟩ = some (.string gc) := (kb1.cell (p := ⟨w.heap.size, 0, none⟩) (cell_lt c1)).trans c1
 have hbV : Below w.heap.size w V3 := hb1.trans (((Below.refl _ W).drew.trans (kb3.mono (Nat.le_refl _))).mono hb1.size)
 have n3 : V3.heap[w.heap.size]? = some (.cells #[.string gc, .int .i64 gp] 24 (0, 0)) := (kb3.block _ (Array.getElem?_eq_some_iff.1 n1).1).trans n1
 have h3 := h.all hbV
 have hm := h3.G
 obtain ⟨ln, hln⟩ : ∃ ln, (b.1.map entG).length = ln := ⟨_, rfl⟩
 have hl30 : ln < 30 := by rw [← hln]; simpa using hf
 obtain ⟨c4, _⟩ := h3.cells
 obtain ⟨⟨a1, a2, a3, a4, a5⟩, ⟨a6, a7, a8, a9⟩, d1, d2, d3, d4, d5, d6, d7, d8, d9, d10⟩ := h.apart
 have hpG := ((insC_perm nameG b.1 ((gc, gp), zeroSu)).map entG).symm
 have hpU := ((insC_perm nameG b.1 ((gc, gp), zeroSu)).map entU).symm
 have E1 : EntSt Tryz.prog 9 90 V3.drew x.g (.string gc) (.agg #[.string gc, .int .i64 gp]) ((insC nameG b.1 ((gc, gp), zeroSu)).map entG) :=
  EntSt.new Tryz.keyedS Tryz.underlying90 (keyS hz) (h3.G.of_block (w' := V3.drew) rfl) Tryz.zeroValue24 (fun v hv => by obtain ⟨y, hy, e, _⟩ := mem_entG hv; exact hn y hy e) _ hpG
 have E2 : ∀ V, MapL Tryz.prog 9 V x.u (b.1.map entU) → EntSt Tryz.prog 9 92 V x.u (.string gc) (.agg #[.int .i64 0, .int .i64 0, .int .i64 0, .int .i64 0]) ((insC nameG b.1 ((gc, gp), zeroSu)).map entU) := fun V hV =>
  EntSt.new Tryz.keyedS Tryz.underlying92 (keyS hz) hV Tryz.zeroValue46 (fun v hv => by obtain ⟨y, hy, e, _⟩ := mem_entU hv; exact hn y hy e) _ hpU
 obtain ⟨st, z, w2, w3, st', z', w4, w5, r1, r2, r3, r4, r5, r6, r7, r8⟩ := two_ents E1 (h3.U.of_block (w' := V3.drew) rfl) E2 d1
 have n3d : V3.drew.heap[w.heap.size]? = some (.cells #[.string gc, .int .i64 gp] 24 (0, 0)) := n3
 have nq : w.heap.size ≠ x.g ∧ w.heap.size ≠ x.u := by have := h.lts; omega
 obtain ⟨o2, o3, o4, o5⟩ := r7 _ nq.1 nq.2
 obtain ⟨p2, p3, p4, p5⟩ := r7 _ a1 a2
 have x0 : V3.drew.cell? ⟨w.heap.size, 0, none⟩ = some (.string gc) := by rw [cell_of_heap n3d]; rfl
 have x1 : V3.drew.cell? ⟨w.heap.size, 1, none⟩ = some (.int .i64 gp) := by rw [cell_of_heap n3d]; rfl
 have x2 : w2.cell? ⟨w.heap.size, 0, none⟩ = some (.string gc) := by rw [cell_of_heap (o2.trans n3d)]; rfl
 have x3 : w2.cell? ⟨w.heap.size, 1, none⟩ = some (.int .i64 gp) := by rw [cell_of_heap (o2.trans n3d)]; rfl
 have x4 : w3.cell? ⟨w.heap.size, 0, none⟩ = some (.string gc) := by rw [cell_of_heap (o3.trans n3d)]; rfl
 have x5 : w3.cell? ⟨w.heap.size, 1, none⟩ = some (.int .i64 gp) := by rw [cell_of_heap (o3.trans n3d)]; rfl
 have hd := h3.drew.blk
 have y0 : V3.drew.cell? ⟨x.p, 0, none⟩ = some (.map (some x.g)) := by rw [cell_of_heap hd]; rfl
 have y1 : V3.drew.cell? ⟨x.p, 1, none⟩ = some (.map (some x.u)) := by rw [cell_of_heap hd]; rfl
 have y2 : w2.cell? ⟨x.p, 1, none⟩ = some (.map (some x.u)) := by rw [cell_of_heap (p2.trans hd)]; rfl
 have y3 : w3.cell? ⟨x.p, 1, none⟩ = some (.map (some x.u)) := by rw [cell_of_heap (p3.trans hd)]; rfl
 have HF : Hid (IsBk w5 B x (goodsB b (gc, gp)) ∧ Off x.all w w5) := by
  refine ⟨⟨ps, bs, h3.drew.goods h0 r5 r6 fun c h1 h2 => (r7 c h1 h2).2.2.2⟩, ?_⟩
  have q1 : Off x.all w V3.drew := Off.of_below hbV.drew
  exact q1.trans (r8.mono (by simp [Bl.all]))
 clear kb1 kb2 kb3 hbV hbW h1 hb1 n1 h zd hf r5 r6 r7 r8 E1 E2 hpG hpU h3 hd p2 p3 p4 p5 o2 o3 o4 o5 n3 n3d hn
 go_enter Tryz.func48, Tryz.ntmps48
 go_wp2
 go_region
 go_wp2_with (at_len; refine wpL_len rfl _ 90 rfl 9 24 Tryz.underlying90 x.g _ ln hln rfl hm ?_)
 go_region
 go_wp2
 go_ret
 exact ⟨rfl, HF.out⟩
theorem BkAt.lot {V W : World} {B : Nat} {x : Bl} {ps bs : Nat} {b : Bk} (h : BkAt V B x ps bs b) {l : Lo} (h0 : lotBE b l = 0) (hg : MapL Tryz.prog 9 W x.l ((insC nameL b.2.1 (l, 0)).map entL)) (hu : MapL Tryz.prog 9 W x.h ((insC nameL b.2.1 (l, 0)).map entH)) (hk : ∀ c, c ≠ x.l → c ≠ x.h → W.heap[c]? = V.heap[c]?) : BkAt W B x ps bs (lotB b l) := by
 obtain ⟨⟨a1, a2, a3, a4, a5⟩, ⟨a6, a7, a8, a9⟩, d1, d2, d3, d4, d5, d6, d7, d8, d9, d10⟩ := h.apart
 exact { blk := (hk _ a3 a4).trans h.blk, G := h.G.of_block (hk _ d2 d3), U := h.U.of_block (hk _ d5 d6), L := hg, H := hu, sblk := (hk _ a8 a9).trans h.sblk, S := h.S.of_blocks (hk _ a8 a9) (hk _ d9.symm d10.symm), ok := h.ok.lot h0, bp := h.bp, bg := h.bg, gu := h.gu, ul := h.ul, lh := h.lh, hs := h.hs, bs := h.bs }
theorem addL_exist (l : Lo) (w : World) (s : Nat → Addr) (B : Nat) (x : Bl) (b : Bk) (h : IsBk w B x b) (hz : l.1.size ≤ maxLen) (hz' : l.2.1.size ≤ maxLen) (hs : Bs w s) (y : Lh) (hy : y ∈ b.2.1) (hyl : nameL y = l.1) :
  Calls Tryz.prog 49 #[.pointer (some ⟨x.p, 0, none⟩), agQ l] w fun e w' => e = .returned (errP s 7) ∧ IsBk w' B x b ∧ Off x.all w w' := by
 obtain ⟨li, lc, lu, lk⟩ := l
 simp only at *
 unfold agQ
 simp only
 have hb1 : Below w.heap.size w (w.alloc (.cells #[.string li, .string lc, .int .i64 lu, .int .i64 lk] 26)) := (Below.refl _ w).alloc (Nat.le_refl _) _
 have n1 := heap_alloc_new w (.cells #[.string li, .string lc, .int .i64 lu, .int .i64 lk] 26)
 obtain ⟨ps, bs, h⟩ := h
 have h1 := h.all hb1
 obtain ⟨W, hW⟩ : ∃ W, w.alloc (.cells #[.string li, .string lc, .int .i64 lu, .int .i64 lk] 26) = W := ⟨_, rfl⟩
 rw [hW] at hb1 n1 h1
 have hq := h1.drew.askL_yes hz hy hyl
 obtain ⟨⟨yi, yc, yu, yk⟩, yh⟩ := y
 simp only at hq
 obtain ⟨_, _, c0, _⟩ := h1.cells
 have c1 : W.cell? ⟨w.heap.size, 0, none⟩ = some (.string li) := by rw [cell_of_heap n1]; rfl
 obtain ⟨V1, V2, V3, V4, V5, e1, e2, e3, e4, e5, ⟨k1, k2, k3, k4, k5⟩, ⟨k6, k7⟩, ⟨k8, k9⟩, ⟨k10, k11⟩, _, kb1, kb5⟩ := boxed4 W.drew (.string ⟨#[]⟩) (.string ⟨#[]⟩) (.int .i64 0) (.int .i64 0) (.string yi) (.string yc) (.int .i64 yu) (.int .i64 yk) 26
 have zd : W.drew.heap.size = W.heap.size := rfl
 rw [zd] at e2 e3 e4 e5 k1 k2 k3 k4 k5 k6 k7 k8 k9 k10 k11
 have hbW : Below w.heap.size w V1 := hb1.trans (((Below.refl _ W).drew.trans (kb1.mono (Nat.le_refl _))).mono hb1.size)
 have hq1 := (h.all hbW).askL_yes hz hy hyl
 (try simp only at hq1)
 obtain ⟨_, _, c2, _⟩ := (h.all hbW).cells
 have c3 : V1.cell? ⟨w.heap.size, 0, none⟩ = some (.string li) := (kb1.cell (p := ⟨w.heap.size, 0, none⟩) (cell_lt c1)).trans c1
 have hbV : Below w.heap.size w V5 := hb1.trans (((Below.refl _ W).drew.trans (kb5.mono (Nat.le_refl _))).mono hb1.size)
 have n3 : V5.heap[w.heap.size]? = some (.cells #[.string li, .string lc, .int .i64 lu, .int .i64 lk] 26 (0, 0)) := (kb5.block _ (Array.getElem?_eq_some_iff.1 n1).1).trans n1
 have h3 := h.all hbV
 clear kb1 kb5 hbW h1 hb1 n1 zd
 have hsV : V5.cell? ⟨4, 0, none⟩ = some (err (s 6)) := (hs.below hbV).exist
 have HF : Hid (IsBk V5 B x b ∧ Off x.all w V5) := ⟨⟨ps, bs, h3⟩, Off.of_below hbV⟩
 clear hbV h3 n3 h hs
 go_enter Tryz.func49, Tryz.ntmps49
 go_wp2
 go_region
 go_wp2
 go_ret
 exact ⟨rfl, HF.out⟩
theorem addL_none (l : Lo) (w : World) (s : Nat → Addr) (B : Nat) (x : Bl) (b : Bk) (h : IsBk w B x b) (hz : l.1.size ≤ maxLen) (hz' : l.2.1.size ≤ maxLen) (hs : Bs w s) (hn : ∀ y ∈ b.2.1, nameL y ≠ l.1) (hng : ∀ y ∈ b.1, nameG y ≠ l.2.1) :
  Calls Tryz.prog 49 #[.pointer (some ⟨x.p, 0, none⟩), agQ l] w fun e w' => e = .returned (errP s 6) ∧ IsBk w' B x b ∧ Off x.all w w' := by
 obtain ⟨li, lc, lu, lk⟩ := l
 simp only at *
 unfold agQ
 simp only
 have hb1 : Below w.heap.size w (w.alloc (.cells #[.string li, .string lc, .int .i64 lu, .int .i64 lk] 26)) := (Below.refl _ w).alloc (Nat.le_refl _) _
 have n1 := heap_alloc_new w (.cells #[.string li, .string lc, .int .i64 lu, .int .i64 lk] 26)
 obtain ⟨ps, bs, h⟩ := h
 have h1 := h.all hb1
 obtain ⟨W, hW⟩ : ∃ W, w.alloc (.cells #[.string li, .string lc, .int .i64 lu, .int .i64 lk] 26) = W := ⟨_, rfl⟩
 rw [hW] at hb1 n1 h1
 have hq := h1.drew.askL_no hz hn
 obtain ⟨_, _, c0, _⟩ := h1.cells
 have c1 : W.cell? ⟨w.heap.size, 0, none⟩ = some (.string li) := by rw [cell_of_heap n1]; rfl
 obtain ⟨V1, V2, V3, V4, V5, e1, e2, e3, e4, e5, ⟨k1, k2, k3, k4, k5⟩, ⟨k6, k7⟩, ⟨k8, k9⟩, ⟨k10, k11⟩, _, kb1, kb5⟩ := boxed4 W.drew (.string ⟨#[]⟩) (.string ⟨#[]⟩) (.int .i64 0) (.int .i64 0) (.string ⟨#[]⟩) (.string ⟨#[]⟩) (.int .i64 0) (.int .i64 0) 26
 have zd : W.drew.heap.size = W.heap.size := rfl
 rw [zd] at e2 e3 e4 e5 k1 k2 k3 k4 k5 k6 k7 k8 k9 k10 k11
 have hbW : Below w.heap.size w V1 := hb1.trans (((Below.refl _ W).drew.trans (kb1.mono (Nat.le_refl _))).mono hb1.size)
 have hq1 := (h.all hbW).askL_no hz hn
 (try simp only at hq1)
 obtain ⟨_, _, c2, _⟩ := (h.all hbW).cells
 have c3 : V1.cell? ⟨w.heap.size, 0, none⟩ = some (.string li) := (kb1.cell (p := ⟨w.heap.size, 0, none⟩) (cell_lt c1)).trans c1
 have hbV : Below w.heap.size w V5 := hb1.trans (((Below.refl _ W).drew.trans (kb5.mono (Nat.le_refl _))).mono hb1.size)
 have n3 : V5.heap[w.heap.size]? = some (.cells #[.string li, .string lc, .int .i64 lu, .int .i64 lk] 26 (0, 0)) := (kb5.block _ (Array.getElem?_eq_some_iff.1 n1).1).trans n1
 have h3 := h.all hbV
 clear kb1 kb5 hbW h1 hb1 n1 zd
 have hg := h3.drew.askG_no hz' hng
 obtain ⟨f0, _, _, _⟩ := h3.drew.cells
 have n3d : V5.drew.heap[w.heap.size]? = some (.cells #[.string li, .string lc, .int .i64 lu, .int .i64 lk] 26 (0, 0)) := n3
 have f1 : V5.drew.cell? ⟨w.heap.size, 1, none⟩ = some (.string lc) := by rw [cell_of_heap n3d]; rfl
 obtain ⟨U1, U2, U3, g1, g2, g3, ⟨j1, j2, j3⟩, ⟨j4, j5⟩, _, jb1, jb2, jb3⟩ := boxed2 V5.drew (.string ⟨#[]⟩) (.int .i64 0) (.string ⟨#[]⟩) (.int .i64 0) 24
 have zd : V5.drew.heap.size = V5.heap.size := rfl
 rw [zd] at g2 g3 j1 j2 j3 j4 j5
 have hbU1 : Below w.heap.size w U1 := hbV.drew.trans (jb1.mono hbV.size)
 have hbU : Below w.heap.size w U3 := hbV.drew.trans (jb3.mono hbV.size)
 have hg1 := (h.all hbU1).askG_no hz' hng
 (try simp only at hg1)
 obtain ⟨f2, _, _, _⟩ := (h.all hbU1).cells
 have f3 : U1.cell? ⟨w.heap.size, 1, none⟩ = some (.string lc) := (jb1.cell (p := ⟨w.heap.size, 1, none⟩) (cell_lt f1)).trans f1
 have n4 : U3.heap[w.heap.size]? = some (.cells #[.string li, .string lc, .int .i64 lu, .int .i64 lk] 26 (0, 0)) := (jb3.block _ (Array.getElem?_eq_some_iff.1 n3d).1).trans n3d
 have h4 := h.all hbU
 have hsV : U3.cell? ⟨2, 0, none⟩ = some (err (s 5)) := (hs.below hbU).none_
 have HF : Hid (IsBk U3 B x b ∧ Off x.all w U3) := ⟨⟨ps, bs, h4⟩, Off.of_below hbU⟩
 clear hbV hbU hbU1 jb1 jb2 jb3 h3 h4 n3 n3d n4 h hs zd hn hng
 go_enter Tryz.func49, Tryz.ntmps49
 go_wp2
 go_region
 go_wp2
 go_region
 go_wp2
 go_ret
 exact ⟨rfl, HF.out⟩
theorem addL_full (l : Lo) (w : World) (s : Nat → Addr) (B : Nat) (x : Bl) (b : Bk) (h : IsBk w B x b) (hz : l.1.size ≤ maxLen) (hz' : l.2.1.size ≤ maxLen) (hs : Bs w s) (hn : ∀ y ∈ b.2.1, nameL y ≠ l.1) (y : Gs) (hy : y ∈ b.1) (hyg : nameG y = l.2.1) (hf : 60 ≤ b.2.1.length) :
  Calls Tryz.prog 49 #[.pointer (some ⟨x.p, 0, none⟩), agQ l] w fun e w' => e = .returned (errP s 8) ∧ IsBk w' B x b ∧ Off x.all w w' := by
 obtain ⟨li, lc, lu, lk⟩ := l
 simp only at *
 unfold agQ
 simp only
 have hb1 : Below w.heap.size w (w.alloc (.cells #[.string li, .string lc, .int .i64 lu, .int .i64 lk] 26)) := (Below.refl _ w).alloc (Nat.le_refl _) _
 have n1 := heap_alloc_new w (.cells #[.string li, .string lc, .int .i64 lu, .int .i64 lk] 26)
 obtain ⟨ps, bs, h⟩ := h
 have h1 := h.all hb1
 obtain ⟨W, hW⟩ : ∃ W, w.alloc (.cells #[.string li, .string lc, .int .i64 lu, .int .i64 lk] 26) = W := ⟨_, rfl⟩
 rw [hW] at hb1 n1 h1
 have hq := h1.drew.askL_no hz hn
 obtain ⟨_, _, c0, _⟩ := h1.cells
 have c1 : W.cell? ⟨w.heap.size, 0, none⟩ = some (.string li) := by rw [cell_of_heap n1]; rfl
 obtain ⟨V1, V2, V3, V4, V5, e1, e2, e3, e4, e5, ⟨k1, k2, k3, k4, k5⟩, ⟨k6, k7⟩, ⟨k8, k9⟩, ⟨k10, k11⟩, _, kb1, kb5⟩ := boxed4 W.drew (.string ⟨#[]⟩) (.string ⟨#[]⟩) (.int .i64 0) (.int .i64 0) (.string ⟨#[]⟩) (.string ⟨#[]⟩) (.int .i64 0) (.int .i64 0) 26
 have zd : W.drew.heap.size = W.heap.size := rfl
 rw [zd] at e2 e3 e4 e5 k1 k2 k3 k4 k5 k6 k7 k8 k9 k10 k11
 have hbW : Below w.heap.size w V1 := hb1.trans (((Below.refl _ W).drew.trans (kb1.mono (Nat.le_refl _))).mono hb1.size)
 have hq1 := (h.all hbW).askL_no hz hn
 (try simp only at hq1)
 obtain ⟨_, _, c2, _⟩ := (h.all hbW).cells
 have c3 : V1.cell? ⟨w.heap.size, 0, none⟩ = some (.string li) := (kb1.cell (p := ⟨w.heap.size, 0, none⟩) (cell_lt c1)).trans c1
 have hbV : Below w.heap.size w V5 := hb1.trans (((Below.refl _ W).drew.trans (kb5.mono (Nat.le_refl _))).mono hb1.size)
 have n3 : V5.heap[w.heap.size]? = some (.cells #[.string li, .string lc, .int .i64 lu, .int .i64 lk] 26 (0, 0)) := (kb5.block _ (Array.getElem?_eq_some_iff.1 n1).1).trans n1
 have h3 := h.all hbV
 clear kb1 kb5 hbW h1 hb1 n1 zd
 have hg := h3.drew.askG_yes hz' hy hyg
 obtain ⟨⟨yc, yp⟩, ys⟩ := y
 simp only at hg
 obtain ⟨f0, _, _, _⟩ := h3.drew.cells
 have n3d : V5.drew.heap[w.heap.size]? = some (.cells #[.string li, .string lc, .int .i64 lu, .int .i64 lk] 26 (0, 0)) := n3
 have f1 : V5.drew.cell? ⟨w.heap.size, 1, none⟩ = some (.string lc) := by rw [cell_of_heap n3d]; rfl
 obtain ⟨U1, U2, U3, g1, g2, g3, ⟨j1, j2, j3⟩, ⟨j4, j5⟩, _, jb1, jb2, jb3⟩ := boxed2 V5.drew (.string ⟨#[]⟩) (.int .i64 0) (.string yc) (.int .i64 yp) 24
 have zd : V5.drew.heap.size = V5.heap.size := rfl
 rw [zd] at g2 g3 j1 j2 j3 j4 j5
 have hbU1 : Below w.heap.size w U1 := hbV.drew.trans (jb1.mono hbV.size)
 have hbU : Below w.heap.size w U3 := hbV.drew.trans (jb3.mono hbV.size)
 have hg1 := (h.all hbU1).askG_yes hz' hy hyg
 (try simp only at hg1)
 obtain ⟨f2, _, _, _⟩ := (h.all hbU1).cells
 have f3 : U1.cell? ⟨w.heap.size, 1, none⟩ = some (.string lc) := (jb1.cell (p := ⟨w.heap.size, 1, none⟩) (cell_lt f1)).trans f1
 have n4 : U3.heap[w.heap.size]? = some (.cells #[.string li, .string lc, .int .i64 lu, .int .i64 lk] 26 (0, 0)) := (jb3.block _ (Array.getElem?_eq_some_iff.1 n3d).1).trans n3d
 have h4 := h.all hbU
 have hm := h4.L
 obtain ⟨ln, hln⟩ : ∃ ln, (b.2.1.map entL).length = ln := ⟨_, rfl⟩
 obtain ⟨_, _, f4, _⟩ := h4.cells
 have hl60 : 60 ≤ ln := by rw [← hln]; simpa using hf
 have hl99 : ln ≤ 60 := by rw [← hln]; simpa using h.ok.wf.ll
 have hsV : U3.cell? ⟨5, 0, none⟩ = some (err (s 7)) := (hs.below hbU).five.full
 have HF : Hid (IsBk U3 B x b ∧ Off x.all w U3) := ⟨⟨ps, bs, h4⟩, Off.of_below hbU⟩
 clear hbV hbU hbU1 jb1 jb2 jb3 h3 h4 n3 n3d n4 h hs zd hn hf
 go_enter Tryz.func49, Tryz.ntmps49
 go_wp2
 go_region
 go_wp2
 go_region
 go_wp2_with (at_len; refine wpL_len rfl _ 93 rfl 9 26 Tryz.underlying93 x.l _ ln hln rfl hm ?_)
 go_ret
 exact ⟨rfl, HF.out⟩
theorem addL_ok (l : Lo) (w : World) (s : Nat → Addr) (B : Nat) (x : Bl) (b : Bk) (h : IsBk w B x b) (hz : l.1.size ≤ maxLen) (hz' : l.2.1.size ≤ maxLen) (hn : ∀ y ∈ b.2.1, nameL y ≠ l.1) (y : Gs) (hy : y ∈ b.1) (hyg : nameG y = l.2.1) (hf : b.2.1.length < 60) (h0 : lotBE b l = 0) :
  Calls Tryz.prog 49 #[.pointer (some ⟨x.p, 0, none⟩), agQ l] w fun e w' => e = .returned (errP s 0) ∧ IsBk w' B x (lotB b l) ∧ Off x.all w w' := by
 obtain ⟨li, lc, lu, lk⟩ := l
 simp only at *
 unfold agQ
 simp only
 have hb1 : Below w.heap.size w (w.alloc (.cells #[.string li, .string lc, .int .i64 lu, .int .i64 lk] 26)) := (Below.refl _ w).alloc (Nat.le_refl _) _
 have n1 := heap_alloc_new w (.cells #[.string li, .string lc, .int .i64 lu, .int .i64 lk] 26)
 obtain ⟨ps, bs, h⟩ := h
 have h1 := h.all hb1
 obtain ⟨W, hW⟩ : ∃ W, w.alloc (.cells #[.string li, .string lc, .int .i64 lu, .int .i64 lk] 26) = W := ⟨_, rfl⟩
 rw [hW] at hb1 n1 h1
 have hq := h1.drew.askL_no hz hn
 obtain ⟨_, _, c0, _⟩ := h1.cells
 have c1 : W.cell? ⟨w.heap.size, 0, none⟩ = some (.string li) := by rw [cell_of_heap n1]; rfl
 obtain ⟨V1, V2, V3, V4, V5, e1, e2, e3, e4, e5, ⟨k1, k2, k3, k4, k5⟩, ⟨k6, k7⟩, ⟨k8, k9⟩, ⟨k10, k11⟩, _, kb1, kb5⟩ := boxed4 W.drew (.string ⟨#[]⟩) (.string ⟨#[]⟩) (.int .i64 0) (.int .i64 0) (.string ⟨#[]⟩) (.string ⟨#[]⟩) (.int .i64 0) (.int .i64 0) 26
 have zd : W.drew.heap.size = W.heap.size := rfl
 rw [zd] at e2 e3 e4 e5 k1 k2 k3 k4 k5 k6 k7 k8 k9 k10 k11
 have hbW : Below w.heap.size w V1 := hb1.trans (((Below.refl _ W).drew.trans (kb1.mono (Nat.le_refl _))).mono hb1.size)
 have hq1 := (h.all hbW).askL_no hz hn
 (try simp only at hq1)
 obtain ⟨_, _, c2, _⟩ := (h.all hbW).cells
 have c3 : V1.cell? ⟨w.heap.size, 0, none⟩ = some (.string li) := (kb1.cell (p := ⟨w.heap.size, 0, none⟩) (cell_lt c1)).trans c1
 have hbV : Below w.heap.size w V5 := hb1.trans (((Below.refl _ W).drew.trans (kb5.mono (Nat.le_refl _))).mono hb1.size)
 have n3 : V5.heap[w.heap.size]? = some (.cells #[.string li, .string lc, .int .i64 lu, .int .i64 lk] 26 (0, 0)) := (kb5.block _ (Array.getElem?_eq_some_iff.1 n1).1).trans n1
 have h3 := h.all hbV
 clear kb1 kb5 hbW h1 hb1 n1 zd
 have hg := h3.drew.askG_yes hz' hy hyg
 obtain ⟨⟨yc, yp⟩, ys⟩ := y
 simp only at hg
 obtain ⟨f0, _, _, _⟩ := h3.drew.cells
 have n3d : V5.drew.heap[w.heap.size]? = some (.cells #[.string li, .string lc, .int .i64 lu, .int .i64 lk] 26 (0, 0)) := n3
 have f1 : V5.drew.cell? ⟨w.heap.size, 1, none⟩ = some (.string lc) := by rw [cell_of_heap n3d]; rfl
 obtain ⟨U1, U2, U3, g1, g2, g3, ⟨j1, j2, j3⟩, ⟨j4, j5⟩, _, jb1, jb2, jb3⟩ := boxed2 V5.drew (.string ⟨#[]⟩) (.int .i64 0) (.string yc) (.int .i64 yp) 24
 have zd : V5.drew.heap.size = V5.heap.size := rfl
 rw [zd] at g2 g3 j1 j2 j3 j4 j5
 have hbU1 : Below w.heap.size w U1 := hbV.drew.trans (jb1.mono hbV.size)
 have hbU : Below w.heap.size w U3 := hbV.drew.trans (jb3.mono hbV.size)
 have hg1 := (h.all hbU1).askG_yes hz' hy hyg
 (try simp only at hg1)
 obtain ⟨f2, _, _, _⟩ := (h.all hbU1).cells
 have f3 : U1.cell? ⟨w.heap.size, 1, none⟩ = some (.string lc) := (jb1.cell (p := ⟨w.heap.size, 1, none⟩) (cell_lt f1)).trans f1
 have n4 : U3.heap[w.heap.size]? = some (.cells #[.string li, .string lc, .int .i64 lu, .int .i64 lk] 26 (0, 0)) := (jb3.block _ (Array.getElem?_eq_some_iff.1 n3d).1).trans n3d
 have h4 := h.all hbU
 have hm := h4.L
 obtain ⟨ln, hln⟩ : ∃ ln, (b.2.1.map entL).length = ln := ⟨_, rfl⟩
 obtain ⟨_, _, f4, _⟩ := h4.cells
 have hl60 : ln < 60 := by rw [← hln]; simpa using hf
 obtain ⟨⟨a1, a2, a3, a4, a5⟩, ⟨a6, a7, a8, a9⟩, d1, d2, d3, d4, d5, d6, d7, d8, d9, d10⟩ := h.apart
 have hpL := ((insC_perm nameL b.2.1 ((li, lc, lu, lk), 0)).map entL).symm
 have hpH := ((insC_perm nameL b.2.1 ((li, lc, lu, lk), 0)).map entH).symm
 have E1 : EntSt Tryz.prog 9 93 U3.drew x.l (.string li) (.agg #[.string li, .string lc, .int .i64 lu, .int .i64 lk]) ((insC nameL b.2.1 ((li, lc, lu, lk), 0)).map entL) :=
  EntSt.new Tryz.keyedS Tryz.underlying93 (keyS hz) (h4.L.of_block (w' := U3.drew) rfl) Tryz.zeroValue26 (fun v hv => by obtain ⟨y, hy, e, _⟩ := mem_entL hv; exact hn y hy e) _ hpL
 have E2 : ∀ V, MapL Tryz.prog 9 V x.h (b.2.1.map entH) → EntSt Tryz.prog 9 94 V x.h (.string li) (.int .i64 0) ((insC nameL b.2.1 ((li, lc, lu, lk), 0)).map entH) := fun V hV =>
  EntSt.new Tryz.keyedS Tryz.underlying94 (keyS hz) hV Tryz.zeroValue3 (fun v hv => by obtain ⟨y, hy, e, _⟩ := mem_entH hv; exact hn y hy e) _ hpH
 obtain ⟨st, z, w2, w3, st', z', w4, w5, r1, r2, r3, r4, r5, r6, r7, r8⟩ := two_ents E1 (h4.H.of_block (w' := U3.drew) rfl) E2 d8
 have n4d : U3.drew.heap[w.heap.size]? = some (.cells #[.string li, .string lc, .int .i64 lu, .int .i64 lk] 26 (0, 0)) := n4
 have nq : w.heap.size ≠ x.l ∧ w.heap.size ≠ x.h := by have := h.lts; omega
 obtain ⟨o2, o3, o4, o5⟩ := r7 _ nq.1 nq.2
 obtain ⟨p2, p3, p4, p5⟩ := r7 _ a3 a4
 have mU30 : U3.drew.cell? ⟨w.heap.size, 0, none⟩ = some (.string li) := by rw [cell_of_heap n4d]; rfl
 have mU31 : U3.drew.cell? ⟨w.heap.size, 1, none⟩ = some (.string lc) := by rw [cell_of_heap n4d]; rfl
 have mU32 : U3.drew.cell? ⟨w.heap.size, 2, none⟩ = some (.int .i64 lu) := by rw [cell_of_heap n4d]; rfl
 have mU33 : U3.drew.cell? ⟨w.heap.size, 3, none⟩ = some (.int .i64 lk) := by rw [cell_of_heap n4d]; rfl
 have mw20 : w2.cell? ⟨w.heap.size, 0, none⟩ = some (.string li) := by rw [cell_of_heap (o2.trans n4d)]; rfl
 have mw21 : w2.cell? ⟨w.heap.size, 1, none⟩ = some (.string lc) := by rw [cell_of_heap (o2.trans n4d)]; rfl
 have mw22 : w2.cell? ⟨w.heap.size, 2, none⟩ = some (.int .i64 lu) := by rw [cell_of_heap (o2.trans n4d)]; rfl
 have mw23 : w2.cell? ⟨w.heap.size, 3, none⟩ = some (.int .i64 lk) := by rw [cell_of_heap (o2.trans n4d)]; rfl
 have mw30 : w3.cell? ⟨w.heap.size, 0, none⟩ = some (.string li) := by rw [cell_of_heap (o3.trans n4d)]; rfl
 have mw31 : w3.cell? ⟨w.heap.size, 1, none⟩ = some (.string lc) := by rw [cell_of_heap (o3.trans n4d)]; rfl
 have mw32 : w3.cell? ⟨w.heap.size, 2, none⟩ = some (.int .i64 lu) := by rw [cell_of_heap (o3.trans n4d)]; rfl
 have mw33 : w3.cell? ⟨w.heap.size, 3, none⟩ = some (.int .i64 lk) := by rw [cell_of_heap (o3.trans n4d)]; rfl
 have hd := h4.drew.blk
 have y0 : U3.drew.cell? ⟨x.p, 2, none⟩ = some (.map (some x.l)) := by rw [cell_of_heap hd]; rfl
 have y1 : U3.drew.cell? ⟨x.p, 3, none⟩ = some (.map (some x.h)) := by rw [cell_of_heap hd]; rfl
 have y2 : w2.cell? ⟨x.p, 3, none⟩ = some (.map (some x.h)) := by rw [cell_of_heap (p2.trans hd)]; rfl
 have y3 : w3.cell? ⟨x.p, 3, none⟩ = some (.map (some x.h)) := by rw [cell_of_heap (p3.trans hd)]; rfl
 have HF : Hid (IsBk w5 B x (lotB b (li, lc, lu, lk)) ∧ Off x.all w w5) := by
  refine ⟨⟨ps, bs, h4.drew.lot h0 r5 r6 fun c h1 h2 => (r7 c h1 h2).2.2.2⟩, ?_⟩
  have q1 : Off x.all w U3.drew := Off.of_below hbU.drew
  exact q1.trans (r8.mono (by simp [Bl.all]))
 clear hbV hbU hbU1 jb1 jb2 jb3 h3 h4 n3 n3d n4 n4d h zd hn hf r5 r6 r7 r8 E1 E2 hpL hpH hd p2 p3 p4 p5 o2 o3 o4 o5
 go_enter Tryz.func49, Tryz.ntmps49
 go_wp2
 go_region
 go_wp2
 go_region
 go_wp2_with (at_len; refine wpL_len rfl _ 93 rfl 9 26 Tryz.underlying93 x.l _ ln hln rfl hm ?_)
 go_region
 go_wp2
 go_ret
 exact ⟨rfl, HF.out⟩
theorem addGoods_any (g : Gd) (w : World) (s : Nat → Addr) (B : Nat) (x : Bl) (b : Bk) (h : IsBk w B x b) (hz : g.1.size ≤ maxLen) (hs : Bs w s) :
  Calls Tryz.prog 48 #[.pointer (some ⟨x.p, 0, none⟩), agG g] w fun e w' => e = .returned (errP s (goodsE b g)) ∧ IsBk w' B x (if goodsE b g = 0 then goodsB b g else b) ∧ Off x.all w w' := by
 rcases findI_cases nameG b.1 g.1 with ⟨e, hn⟩ | ⟨i, y, e, hi, hy⟩
 ·by_cases hf : 30 ≤ b.1.length
  ·have h0 : goodsE b g = 8 := by unfold goodsE; rw [e, if_neg (by decide), if_pos hf]
   rw [h0]
   exact addG_full g w s B x b h hz hs hn hf
  ·have h0 : goodsE b g = 0 := by unfold goodsE; rw [e, if_neg (by decide), if_neg hf]
   rw [if_pos h0, h0]
   exact addG_ok g w s B x b h hz hn (by omega) h0
 ·have h0 : goodsE b g = 7 := by unfold goodsE; rw [e, if_pos (by omega)]
  rw [h0]
  exact addG_exist g w s B x b h hz hs y (List.mem_of_getElem? hi) hy
theorem addLot_any (l : Lo) (w : World) (s : Nat → Addr) (B : Nat) (x : Bl) (b : Bk) (h : IsBk w B x b) (hz : l.1.size ≤ maxLen) (hz' : l.2.1.size ≤ maxLen) (hs : Bs w s) :
  Calls Tryz.prog 49 #[.pointer (some ⟨x.p, 0, none⟩), agQ l] w fun e w' => e = .returned (errP s (lotBE b l)) ∧ IsBk w' B x (if lotBE b l = 0 then lotB b l else b) ∧ Off x.all w w' := by
 rcases findI_cases nameL b.2.1 l.1 with ⟨e, hn⟩ | ⟨i, y, e, hi, hy⟩
 ·rcases findI_cases nameG b.1 l.2.1 with ⟨e', hng⟩ | ⟨j, z, e', hj, hz2⟩
  ·have h0 : lotBE b l = 6 := by unfold lotBE; rw [e, e', if_neg (by decide), if_pos (by decide)]
   rw [h0]
   exact addL_none l w s B x b h hz hz' hs hn hng
  ·by_cases hf : 60 ≤ b.2.1.length
   ·have h0 : lotBE b l = 8 := by unfold lotBE; rw [e, e', if_neg (by decide), if_neg (by omega), if_pos hf]
    rw [h0]
    exact addL_full l w s B x b h hz hz' hs hn z (List.mem_of_getElem? hj) hz2 hf
   ·have h0 : lotBE b l = 0 := by unfold lotBE; rw [e, e', if_neg (by decide), if_neg (by omega), if_neg hf]
    rw [if_pos h0, h0]
    exact addL_ok l w s B x b h hz hz' hn z (List.mem_of_getElem? hj) hz2 (by omega) h0
 ·have h0 : lotBE b l = 7 := by unfold lotBE; rw [e, if_pos (by omega)]
  rw [h0]
  exact addL_exist l w s B x b h hz hz' hs y (List.mem_of_getElem? hi) hy
end Go.Proofs.YteomomeigbfeoaaGreatDoor
namespace Go.Proofs.YteomomeigbfeoaaGreatDoor
open Go.RowKit Go.Lib Go.Sort Go.ChangeMaps
open Go.Maps (Keyed)
structure Tw (w W : World) (B : Nat) (x : Bl) (ps bs : Nat) (b : Bk) (e : En) (lb : Nat) (l : Lo) : Prop where
 below : Below w.heap.size w W
 book : BkAt W B x ps bs b
 ent : BlkE W w.heap.size e
 lot : W.heap[lb]? = some (.cells #[.string l.1, .string l.2.1, .int .i64 l.2.2.1, .int .i64 l.2.2.2] 26 (0, 0))
 lbn : w.heap.size ≤ lb
variable {w W W' : World} {B : Nat} {x : Bl} {ps bs : Nat} {b : Bk} {e : En} {lb : Nat} {l : Lo}
theorem Tw.go (h : Tw w W B x ps bs b e lb l) (hb : Below W.heap.size W W') : Tw w W' B x ps bs b e lb l where
 below := h.below.trans (hb.mono h.below.size)
 book := h.book.all hb
 ent := h.ent.below hb
 lot := (hb.block lb (Array.getElem?_eq_some_iff.1 h.lot).1).trans h.lot
 lbn := h.lbn
theorem Tw.drew (h : Tw w W B x ps bs b e lb l) : Tw w W.drew B x ps bs b e lb l := h.go (Below.refl _ _).drew
theorem Tw.code (h : Tw w W B x ps bs b e lb l) : W.cell? ⟨lb, 1, none⟩ = some (.string l.2.1) := by rw [cell_of_heap h.lot]; rfl
theorem Tw.fin_ (h : Tw w W B x ps bs b e lb l) : IsBk W B x b ∧ Off x.all w W := ⟨⟨ps, bs, h.book⟩, Off.of_below h.below⟩
theorem BkAt.lookH (h : BkAt W B x ps bs b) {c : ByteArray} (hc : c.size ≤ maxLen) {y : Lh} (hy : y ∈ b.2.1) (hn : nameL y = c) : (Instr.lookup 94 (.map (some x.h)) (.string c) false).run Tryz.prog W = .ok (.int .i64 y.2) W :=
 h.H.look_hit Tryz.keyedS Tryz.underlying94 (keyS hc) (List.mem_map.2 ⟨y, hy, by unfold entH; rw [← hn]; rfl⟩)
theorem BkAt.lookU (h : BkAt W B x ps bs b) {c : ByteArray} (hc : c.size ≤ maxLen) {y : Gs} (hy : y ∈ b.1) (hn : nameG y = c) : (Instr.lookup 92 (.map (some x.u)) (.string c) false).run Tryz.prog W = .ok (.agg #[.int .i64 y.2.1, .int .i64 y.2.2.1, .int .i64 y.2.2.2.1, .int .i64 y.2.2.2.2]) W :=
 h.U.look_hit Tryz.keyedS Tryz.underlying92 (keyS hc) (List.mem_map.2 ⟨y, hy, by unfold entU; rw [← hn]; rfl⟩)
theorem set_perms {α : Type} (f : α → Ent) {m : List α} {i : Nat} {y z : α} (hy : m[i]? = some y) : (m.map f).Perm (f y :: (m.eraseIdx i).map f) ∧ (f z :: (m.eraseIdx i).map f).Perm ((m.set i z).map f) := by
 have hi := (List.getElem?_eq_some_iff.1 hy).1
 have h1 := (set_perm m i hi y).map f
 have e : m.set i y = m := by
  obtain ⟨_, e⟩ := List.getElem?_eq_some_iff.1 hy
  rw [← e]; exact List.set_getElem_self hi
 rw [e] at h1
 exact ⟨h1, ((set_perm m i hi z).map f).symm⟩
theorem NewSt.later {w0 w1 w2 : World} {p' b' : Nat} {m : List Ln} (h : NewSt w0 w1 p' b' m) (hb : Below w1.heap.size w1 w2) : NewSt w0 w2 p' b' m where
 st := h.st.all hb
 blk := (hb.block p' h.st.lt.1).trans h.blk
 lp := h.lp
 lb := h.lb
 below := h.below.trans (hb.mono h.below.size)
theorem BkAt.away (h : BkAt W B x ps bs b) {c : Nat} {d : Array Value} {T : TypeId} {f : Nat × Nat} (hc : W.heap[c]? = some (.cells d T f)) (hT : T ≠ 96) : c ≠ x.p ∧ c ≠ x.h ∧ c ≠ x.u := by
 refine ⟨fun e9 => ?_, fun e9 => ?_, fun e9 => ?_⟩
 ·rw [e9, h.blk] at hc
  injection hc with hc
  injection hc with _ h2 _
  exact hT h2.symm
 ·obtain ⟨es, ck, hb, _⟩ := h.H
  rw [e9, hb] at hc
  cases hc
 ·obtain ⟨es, ck, hb, _⟩ := h.U
  rw [e9, hb] at hc
  cases hc
theorem Tw.last (h : Tw w W B x ps bs b e lb l) (h00 : BkAt w B x ps bs b) {w0 : World} {p' b' : Nat} (hn : NewSt w0 W p' b' (stkL e b.2.2)) (hw0 : w.heap.size ≤ w0.heap.size) (hz : SzE e) {k i : Nat} {y : Lh} {g : Gs} (hk : b.2.1[k]? = some y) (hid : nameL y = e.2.2.1.1) (hg : b.1[i]? = some g) (hgn : nameG g = y.1.2.1) (hcz : y.1.2.1.size ≤ maxLen) (hn1 : 0 ≤ e.2.2.2.2.2) (h0 : pieceE b e y g = 0) :
  ∃ (V : World) (st : Nat) (z : Value) (w2 w3 : World) (st' : Nat) (z' : Value) (w4 w5 : World), W.drew.setCell ⟨x.p, 4, none⟩ (.pointer (some ⟨p', 0, none⟩)) = V ∧
   (Instr.mapEntry 94 (.map (some x.h)) (.string e.2.2.1.1)).run Tryz.prog V = .ok (.tuple #[z, .int .i64 st]) w2 ∧ (Instr.entryStore 94 (.map (some x.h)) (.int .i64 st) (.int .i64 (heldN e.1 y.2 e.2.2.2.2.2))).run Tryz.prog w2 = .ok () w3 ∧
   (Instr.mapEntry 92 (.map (some x.u)) (.string y.1.2.1)).run Tryz.prog w3 = .ok (.tuple #[z', .int .i64 st']) w4 ∧ (Instr.entryStore 92 (.map (some x.u)) (.int .i64 st') (.agg #[.int .i64 (addSu e.1 g.2 e.2.2.2.2.2).1, .int .i64 (addSu e.1 g.2 e.2.2.2.2.2).2.1, .int .i64 (addSu e.1 g.2 e.2.2.2.2.2).2.2.1, .int .i64 (addSu e.1 g.2 e.2.2.2.2.2).2.2.2])).run Tryz.prog w4 = .ok () w5 ∧
   (∀ c, c ≠ x.p → c ≠ x.h → c ≠ x.u → V.heap[c]? = W.heap[c]? ∧ w2.heap[c]? = W.heap[c]? ∧ w3.heap[c]? = W.heap[c]? ∧ w4.heap[c]? = W.heap[c]?) ∧ (∀ U, U = V ∨ U = w2 ∨ U = w3 ∨ U = w4 → U.cell? ⟨x.p, 1, none⟩ = some (.map (some x.u)) ∧ U.cell? ⟨x.p, 3, none⟩ = some (.map (some x.h))) ∧ IsBk w5 B x (pieceB b e k y i g) ∧ Off x.all w w5 := by
 have hd := h.drew
 have hnd : NewSt w0 W.drew p' b' (stkL e b.2.2) := hn.later (Below.refl _ _).drew
 obtain ⟨⟨a1, a2, a3, a4, a5⟩, ⟨a6, a7, a8, a9⟩, d1, d2, d3, d4, d5, d6, d7, d8, d9, d10⟩ := hd.book.apart
 obtain ⟨l1, l2, l3, l4, l5, l6, l7⟩ := h00.lts
 have lp := hn.lp
 have lb' := hn.lb
 have hV : (W.drew.setCell ⟨x.p, 4, none⟩ (.pointer (some ⟨p', 0, none⟩))).heap[x.p]? = some (.cells #[.map (some x.g), .map (some x.u), .map (some x.l), .map (some x.h), .pointer (some ⟨p', 0, none⟩)] 96 (0, 0)) := set_cell hd.book.blk 4 _ rfl
 have hVo : ∀ c, c ≠ x.p → (W.drew.setCell ⟨x.p, 4, none⟩ (.pointer (some ⟨p', 0, none⟩))).heap[c]? = W.drew.heap[c]? := fun c hc => Below.heap_setCell W.drew ⟨x.p, 4, none⟩ _ c hc
 have hoff : Off x.all w (W.drew.setCell ⟨x.p, 4, none⟩ (.pointer (some ⟨p', 0, none⟩))) := (Off.of_below hd.below).set (by simp [Bl.all]) _
 generalize W.drew.setCell ⟨x.p, 4, none⟩ (.pointer (some ⟨p', 0, none⟩)) = V at *
 obtain ⟨q1, q2⟩ := set_perms entH (z := (y.1, heldN e.1 y.2 e.2.2.2.2.2)) hk
 obtain ⟨q3, q4⟩ := set_perms entU (z := (g.1, addSu e.1 g.2 e.2.2.2.2.2)) hg
 have kid : entH y = (.string e.2.2.1.1, .int .i64 y.2) := by unfold entH; rw [← hid]; rfl
 have kid2 : entH (y.1, heldN e.1 y.2 e.2.2.2.2.2) = (.string e.2.2.1.1, .int .i64 (heldN e.1 y.2 e.2.2.2.2.2)) := by unfold entH; rw [← hid]; rfl
 have kg : entU g = (.string y.1.2.1, agU g.2) := by unfold entU; rw [← hgn]; rfl
 have kg2 : entU (g.1, addSu e.1 g.2 e.2.2.2.2.2) = (.string y.1.2.1, agU (addSu e.1 g.2 e.2.2.2.2.2)) := by unfold entU; rw [← hgn]; rfl
 rw [kid] at q1
 rw [kid2] at q2
 rw [kg] at q3
 rw [kg2] at q4
 have E1 : EntSt Tryz.prog 9 94 V x.h (.string e.2.2.1.1) (.int .i64 (heldN e.1 y.2 e.2.2.2.2.2)) ((b.2.1.set k (y.1, heldN e.1 y.2 e.2.2.2.2.2)).map entH) :=
  EntSt.old Tryz.keyedS Tryz.underlying94 (keyS hz.li) (hd.book.H.of_block (hVo _ a4.symm)) q1 _ q2
 have E2 : ∀ V', MapL Tryz.prog 9 V' x.u (b.1.map entU) → EntSt Tryz.prog 9 92 V' x.u (.string y.1.2.1) (agU (addSu e.1 g.2 e.2.2.2.2.2)) ((b.1.set i (g.1, addSu e.1 g.2 e.2.2.2.2.2)).map entU) := fun V' hV' =>
  EntSt.old Tryz.keyedS Tryz.underlying92 (keyS hcz) hV' q3 _ q4
 obtain ⟨st, z, w2, w3, st', z', w4, w5, r1, r2, r3, r4, r5, r6, r7, r8⟩ := two_ents E1 (hd.book.U.of_block (hVo _ a2.symm)) E2 d6.symm
 refine ⟨V, st, z, w2, w3, st', z', w4, w5, rfl, r1, r2, r3, r4, fun c c1 c2 c3 => ⟨hVo c c1, (r7 c c2 c3).1.trans (hVo c c1), (r7 c c2 c3).2.1.trans (hVo c c1), (r7 c c2 c3).2.2.1.trans (hVo c c1)⟩, ?_, ⟨p', b', ?_⟩, hoff.trans (r8.mono (by simp [Bl.all]))⟩
 ·have key : ∀ U : World, U.heap[x.p]? = V.heap[x.p]? → U.cell? ⟨x.p, 1, none⟩ = some (.map (some x.u)) ∧ U.cell? ⟨x.p, 3, none⟩ = some (.map (some x.h)) := fun U hU => ⟨by rw [cell_of_heap (hU.trans hV)]; rfl, by rw [cell_of_heap (hU.trans hV)]; rfl⟩
  rintro U (rfl | rfl | rfl | rfl)
  ·exact key _ rfl
  ·exact key _ (r7 _ a4 a2).1
  ·exact key _ (r7 _ a4 a2).2.1
  ·exact key _ (r7 _ a4 a2).2.2.1
 have keep : ∀ c, c ≠ x.p → c ≠ x.h → c ≠ x.u → w5.heap[c]? = W.drew.heap[c]? := fun c c1 c2 c3 => (r7 c c2 c3).2.2.2.trans (hVo c c1)
 have eL : (b.2.1.set k (y.1, heldN e.1 y.2 e.2.2.2.2.2)).map entL = b.2.1.map entL := set_map (f := entL) hk rfl
 have eG : (b.1.set i (g.1, addSu e.1 g.2 e.2.2.2.2.2)).map entG = b.1.map entG := set_map (f := entG) hg rfl
 have kp : w5.heap[p']? = W.drew.heap[p']? := keep p' (by omega) (by omega) (by omega)
 have kb : w5.heap[b']? = W.drew.heap[b']? := keep b' (by omega) (by omega) (by omega)
 exact {
  blk := ((r7 _ a4 a2).2.2.2).trans hV
  G := by show MapL _ _ _ _ ((b.1.set i (g.1, addSu e.1 g.2 e.2.2.2.2.2)).map entG); rw [eG]; exact hd.book.G.of_block (keep _ a1.symm d3 d1)
  U := r6
  L := by show MapL _ _ _ _ ((b.2.1.set k (y.1, heldN e.1 y.2 e.2.2.2.2.2)).map entL); rw [eL]; exact hd.book.L.of_block (keep _ a3.symm d8 d5.symm)
  H := r5
  sblk := kp.trans hnd.blk
  S := hnd.st.of_blocks kp kb
  ok := h.book.ok.piece hn1 hk hid hg h0
  bp := h.book.bp
  bg := h.book.bg
  gu := h.book.gu
  ul := h.book.ul
  lh := h.book.lh
  hs := by omega
  bs := by have := h00.bp; omega }
end Go.Proofs.YteomomeigbfeoaaGreatDoor
namespace Go.Proofs.YteomomeigbfeoaaGreatDoor
open Go.RowKit Go.Lib Go.Sort
theorem sets4' {W : World} {A : Nat} {a b c d : Value} {t : TypeId} (n1 : W.heap[A]? = some (.cells #[a, b, c, d] t (0, 0))) (v0 v1 v2 v3 : Value) : ∃ V2 V3 V4 V5 : World, W.setCell ⟨A, 0, none⟩ v0 = V2 ∧ V2.setCell ⟨A, 1, none⟩ v1 = V3 ∧ V3.setCell ⟨A, 2, none⟩ v2 = V4 ∧ V4.setCell ⟨A, 3, none⟩ v3 = V5 ∧
  (W.cell? ⟨A, 0, none⟩ = some a ∧ W.cell? ⟨A, 1, none⟩ = some b ∧ W.cell? ⟨A, 2, none⟩ = some c ∧ W.cell? ⟨A, 3, none⟩ = some d ∧ ∀ o, W.frozen? ⟨A, o, none⟩ = false) ∧ (V2.cell? ⟨A, 1, none⟩ = some b ∧ ∀ o, V2.frozen? ⟨A, o, none⟩ = false) ∧ (V3.cell? ⟨A, 2, none⟩ = some c ∧ ∀ o, V3.frozen? ⟨A, o, none⟩ = false) ∧ (V4.cell? ⟨A, 3, none⟩ = some d ∧ ∀ o, V4.frozen? ⟨A, o, none⟩ = false) ∧
  V5.heap[A]? = some (.cells #[v0, v1, v2, v3] t (0, 0)) ∧ Off [A] W V5 := by
 have n2 : (W.setCell ⟨A, 0, none⟩ v0).heap[A]? = some (.cells #[v0, b, c, d] t (0, 0)) := set_cell n1 0 v0 rfl
 have b2 : Off [A] W (W.setCell ⟨A, 0, none⟩ v0) := (Off.refl _ W).set (by simp) v0
 refine ⟨_, _, _, _, rfl, rfl, rfl, rfl, ?_⟩
 generalize W.setCell ⟨A, 0, none⟩ v0 = V2 at *
 have n3 : (V2.setCell ⟨A, 1, none⟩ v1).heap[A]? = some (.cells #[v0, v1, c, d] t (0, 0)) := set_cell n2 1 v1 rfl
 have b3 : Off [A] W (V2.setCell ⟨A, 1, none⟩ v1) := b2.set (by simp) v1
 generalize V2.setCell ⟨A, 1, none⟩ v1 = V3 at *
 have n4 : (V3.setCell ⟨A, 2, none⟩ v2).heap[A]? = some (.cells #[v0, v1, v2, d] t (0, 0)) := set_cell n3 2 v2 rfl
 have b4 : Off [A] W (V3.setCell ⟨A, 2, none⟩ v2) := b3.set (by simp) v2
 generalize V3.setCell ⟨A, 2, none⟩ v2 = V4 at *
 exact ⟨⟨by rw [cell_of_heap n1]; rfl, by rw [cell_of_heap n1]; rfl, by rw [cell_of_heap n1]; rfl, by rw [cell_of_heap n1]; rfl, fun o => frozen_of_heap n1 o⟩, ⟨by rw [cell_of_heap n2]; rfl, fun o => frozen_of_heap n2 o⟩, ⟨by rw [cell_of_heap n3]; rfl, fun o => frozen_of_heap n3 o⟩, ⟨by rw [cell_of_heap n4]; rfl, fun o => frozen_of_heap n4 o⟩, set_cell n4 3 v3 rfl, b4.set (by simp) v3⟩
theorem cells4' {W : World} {A : Nat} {a b c d : Value} {t : TypeId} (n1 : W.heap[A]? = some (.cells #[a, b, c, d] t (0, 0))) : W.cell? ⟨A, 0, none⟩ = some a ∧ W.cell? ⟨A, 1, none⟩ = some b ∧ W.cell? ⟨A, 2, none⟩ = some c ∧ W.cell? ⟨A, 3, none⟩ = some d := ⟨by rw [cell_of_heap n1]; rfl, by rw [cell_of_heap n1]; rfl, by rw [cell_of_heap n1]; rfl, by rw [cell_of_heap n1]; rfl⟩
section
variable {w W : World} {B : Nat} {x : Bl} {ps bs : Nat} {b : Bk}
theorem BkAt.sumsAt (h : BkAt W B x ps bs b) {c : ByteArray} (hc : c.size ≤ maxLen) : (Instr.lookup 92 (.map (some x.u)) (.string c) false).run Tryz.prog W = .ok (.agg #[.int .i64 (sumsB b c).1, .int .i64 (sumsB b c).2.1, .int .i64 (sumsB b c).2.2.1, .int .i64 (sumsB b c).2.2.2]) W := by
 unfold sumsB
 rcases findN_cases nameG b.1 c with ⟨h1, h2⟩ | ⟨y, h1, h2, h3⟩
 ·rw [h1]
  exact h.U.look_miss Tryz.keyedS Tryz.underlying92 (keyS hc) (Tryz.zeroValue46 W) fun v hv => by
   obtain ⟨g, hg, e, _⟩ := mem_entU hv
   exact h2 g hg e
 ·rw [h1]; exact h.lookU hc h2 h3
theorem BkAt.lotAt_ (h : BkAt W B x ps bs b) {c : ByteArray} (hc : c.size ≤ maxLen) : (Instr.lookup 93 (.map (some x.l)) (.string c) true).run Tryz.prog W = .ok (.tuple #[.agg #[.string (lotAt b c).1, .string (lotAt b c).2.1, .int .i64 (lotAt b c).2.2.1, .int .i64 (lotAt b c).2.2.2], .bool (isLot b c)]) W := by
 unfold lotAt isLot
 rcases findN_cases nameL b.2.1 c with ⟨h1, h2⟩ | ⟨y, h1, h2, h3⟩
 ·rw [h1]; exact h.askL_no hc h2
 ·rw [h1]; exact h.askL_yes hc h2 h3
end
theorem bstock_any (w : World) (B : Nat) (x : Bl) (b : Bk) (h : IsBk w B x b) :
  Calls Tryz.prog 19 #[.pointer (some ⟨x.p, 0, none⟩)] w fun e w' => ∃ p' b', e = .returned (.pointer (some ⟨p', 0, none⟩)) ∧ NewSt w w' p' b' b.2.2 := by
 have hW := whole_any w B x b h
 obtain ⟨ps, bs, h⟩ := h
 obtain ⟨_, _, _, _, p4, _⟩ := h.cells
 have HC : Hid (Calls Tryz.prog 46 _ _ _) := copyB_any w ps bs b.2.2 h.S
 have HW : Hid (Calls Tryz.prog 41 _ _ _) := hW
 clear h hW
 go_enter Tryz.func19, Tryz.ntmps19
 go_wp2_with (first
  | (go_at_call 41; refine HW.out.mono ?_; rintro e w1 ⟨rfl, hw⟩; have hw' := hw.symm; subst hw')
  | (go_at_call 46; refine HC.out.mono ?_; rintro e w2 ⟨p', b', rfl, h1, h2, h3, h4, h5⟩))
 go_ret
 exact ⟨p', b', rfl, h3, h4, h1, h2, h5⟩
theorem bsums_any (c : ByteArray) (w : World) (B : Nat) (x : Bl) (b : Bk) (h : IsBk w B x b) (hc : c.size ≤ maxLen) :
  Calls Tryz.prog 16 #[.pointer (some ⟨x.p, 0, none⟩), .string c] w fun e w' => e = .returned (agU (sumsB b c)) ∧ Below w.heap.size w w' := by
 obtain ⟨V1, V2, V3, V4, V5, e1, e2, e3, e4, e5, ⟨k1, k2, k3, k4, k5⟩, ⟨k6, k7⟩, ⟨k8, k9⟩, ⟨k10, k11⟩, n5, kb1, kb5⟩ := boxed4 w (.int .i64 0) (.int .i64 0) (.int .i64 0) (.int .i64 0) (.int .i64 (sumsB b c).1) (.int .i64 (sumsB b c).2.1) (.int .i64 (sumsB b c).2.2.1) (.int .i64 (sumsB b c).2.2.2) 46
 have hW := whole_any V1 B x b (h.below kb1)
 obtain ⟨ps, bs, h⟩ := h
 obtain ⟨_, p1, _, _, _, _⟩ := (h.all kb1).cells
 have hl := (h.all kb1).sumsAt hc
 have HW : Hid (Calls Tryz.prog 41 _ _ _) := hW
 have HB : Hid (Below _ _ _) := kb5
 have m0 : V5.cell? ⟨w.heap.size, 0, none⟩ = some (.int .i64 (sumsB b c).1) := by rw [cell_of_heap n5]; rfl
 have m1 : V5.cell? ⟨w.heap.size, 1, none⟩ = some (.int .i64 (sumsB b c).2.1) := by rw [cell_of_heap n5]; rfl
 have m2 : V5.cell? ⟨w.heap.size, 2, none⟩ = some (.int .i64 (sumsB b c).2.2.1) := by rw [cell_of_heap n5]; rfl
 have m3 : V5.cell? ⟨w.heap.size, 3, none⟩ = some (.int .i64 (sumsB b c).2.2.2) := by rw [cell_of_heap n5]; rfl
 unfold agU
 generalize sumsB b c = u at *
 obtain ⟨u0, u1, u2, u3⟩ := u
 simp only at *
 clear h hW kb1 kb5 n5
 go_enter Tryz.func16, Tryz.ntmps16
 go_wp2_with (first
  | (go_at_call 41; refine HW.out.mono ?_; rintro e w1 ⟨rfl, hw⟩; have hw' := hw.symm; subst hw')
  | (at_lookup; refine wpL_look rfl _ _ 92 rfl x.u _ _ rfl rfl hl ?_))
 exact bodyPost_ret (v := .agg #[.int .i64 u0, .int .i64 u1, .int .i64 u2, .int .i64 u3]) (by simp [results, Tryz.results16, go_sem, m0, m1, m2, m3]) rfl ⟨rfl, HB.out⟩
theorem blot_any (c : ByteArray) (w : World) (B : Nat) (x : Bl) (b : Bk) (h : IsBk w B x b) (hc : c.size ≤ maxLen) :
  Calls Tryz.prog 25 #[.pointer (some ⟨x.p, 0, none⟩), .string c] w fun e w' => e = .returned (.tuple #[agQ (lotAt b c), .bool (isLot b c)]) ∧ Below w.heap.size w w' := by
 have n1 := heap_alloc_new w (.cells #[.string ⟨#[]⟩, .string ⟨#[]⟩, .int .i64 0, .int .i64 0] 26)
 have b1 : Below w.heap.size w (w.alloc (.cells #[.string ⟨#[]⟩, .string ⟨#[]⟩, .int .i64 0, .int .i64 0] 26)) := (Below.refl _ w).alloc (Nat.le_refl _) _
 obtain ⟨W, hW1⟩ : ∃ W, w.alloc (.cells #[.string ⟨#[]⟩, .string ⟨#[]⟩, .int .i64 0, .int .i64 0] 26) = W := ⟨_, rfl⟩
 rw [hW1] at n1 b1
 obtain ⟨V1, V2, V3, V4, V5, e1, e2, e3, e4, e5, ⟨k1, k2, k3, k4, k5⟩, ⟨k6, k7⟩, ⟨k8, k9⟩, ⟨k10, k11⟩, n5, kb1, kb5⟩ := boxed4 W (.string ⟨#[]⟩) (.string ⟨#[]⟩) (.int .i64 0) (.int .i64 0) (.string (lotAt b c).1) (.string (lotAt b c).2.1) (.int .i64 (lotAt b c).2.2.1) (.int .i64 (lotAt b c).2.2.2) 26
 obtain ⟨g0, g1, g2, g3⟩ := cells4' n5
 obtain ⟨T2, T3, T4, T5, f2, f3, f4, f5, ⟨j1, j2, j3, j4, j5⟩, ⟨j6, j7⟩, ⟨j8, j9⟩, ⟨j10, j11⟩, n6, fo⟩ := sets4' ((kb5.block _ (Array.getElem?_eq_some_iff.1 n1).1).trans n1) (.string (lotAt b c).1) (.string (lotAt b c).2.1) (.int .i64 (lotAt b c).2.2.1) (.int .i64 (lotAt b c).2.2.2)
 obtain ⟨m0, m1, m2, m3⟩ := cells4' n6
 have hW := whole_any W B x b (h.below b1)
 obtain ⟨ps, bs, h⟩ := h
 obtain ⟨_, _, p2, _, _, _⟩ := (h.all b1).cells
 have hl := (h.all b1).lotAt_ hc
 have HW : Hid (Calls Tryz.prog 41 _ _ _) := hW
 have hb5 : Below w.heap.size w V5 := b1.trans (kb5.mono b1.size)
 have HB : Hid (Below w.heap.size w T5) := hb5.trans (fo.below hb5.size (by simp))
 unfold agQ
 generalize lotAt b c = u at *
 obtain ⟨u0, u1, u2, u3⟩ := u
 simp only at *
 clear h hW kb1 kb5 n5 n6 fo hb5 b1 n1
 go_enter Tryz.func25, Tryz.ntmps25
 go_wp2_with (first
  | (go_at_call 41; refine HW.out.mono ?_; rintro e w1 ⟨rfl, hw⟩; have hw' := hw.symm; subst hw')
  | (at_lookup; refine wpL_ask rfl _ _ 93 rfl x.l _ _ rfl rfl hl ?_))
 exact bodyPost_ret (v := .tuple #[.agg #[.string u0, .string u1, .int .i64 u2, .int .i64 u3], .bool (isLot b c)]) (by simp [results, Tryz.results25, go_sem, m0, m1, m2, m3]) rfl ⟨rfl, HB.out⟩
end Go.Proofs.YteomomeigbfeoaaGreatDoor
namespace Go.Proofs.YteomomeigbfeoaaGreatDoor
open Go.RowKit Go.Shelf Go.Lib Go.Sort
def cmpG (x y : Gs) : Int := cmpZ (nameG x) (nameG y)
def aheadG (x y : Gs) : Bool := decide (cmpG x y < 0)
theorem aheadG_lt (x y : Gs) : aheadG x y = zLt (nameG x) (nameG y) := by
 unfold aheadG cmpG
 rcases cmpZ_cases (nameG x) (nameG y) with ⟨h1, h2, h3, h4⟩ | ⟨h1, h2, h3, h4⟩ | ⟨h1, h2, h3, h4⟩
 ·rw [h4, h1]; rfl
 ·rw [h4, h1]; rfl
 ·rw [h4, h1]; rfl
theorem zLt_other {a b : ByteArray} (h : zLt a b = false) (hne : a ≠ b) : zLt b a = true := by
 rcases cmpZ_cases a b with ⟨h1, h2, h3, h4⟩ | ⟨h1, h2, h3, h4⟩ | ⟨h1, h2, h3, h4⟩
 ·rw [h1] at h; cases h
 ·exact h2
 ·exact absurd h3 hne
theorem swoG : SWO aheadG where
 irrefl x := by rw [aheadG_lt]; exact zLt_irrefl _
 trans x y z h1 h2 := by rw [aheadG_lt] at *; exact zLt_trans h1 h2
 ntrans x y z h1 h2 := by
  rw [aheadG_lt] at *
  by_cases e : nameG x = nameG y
  ·rw [e]; exact h2
  ·have h3 := zLt_other h1 e
   cases h : zLt (nameG x) (nameG z) with
   | false => rfl
   | true => rw [zLt_trans h3 h] at h2; cases h2
theorem gcompare_any (x y : Gs) (w : World) : Calls Tryz.prog 58 #[.agg #[.string x.1.1, .int .i64 x.1.2], .agg #[.string y.1.1, .int .i64 y.1.2]] w fun e w' => e = .returned (.int .i64 (cmpG x y)) ∧ ∃ q os, w' = grow (w.drewN q) os := by
 have h1 : ∀ w, Calls Tryz.prog 59 #[.string x.1.1, .string y.1.1] w fun e w' => e = .returned (.int .i64 (cmpG x y)) ∧ w' = w := fun w => cmpS_any x.1.1 y.1.1 w
 generalize cmpG x y = c1 at *
 obtain ⟨⟨a, p⟩, s⟩ := x
 obtain ⟨⟨a', p'⟩, s'⟩ := y
 simp only at *
 go_enter Tryz.func58, Tryz.ntmps58
 go_wp2_with (go_at_call 59; refine (h1 _).mono ?_; rintro e w1 ⟨rfl, hw⟩; have hw' := hw.symm; subst hw')
 go_ret
 exact ⟨rfl, ((Grew.refl w).alloc _).alloc _⟩
theorem encGd_len (x : Gs) : (encGd.enc x).length = 2 := rfl
theorem cmpLaysG (blk off size : Nat) (w : World) : CmpLays Tryz.prog 58 #[] encGd.enc 2 cmpG blk off size w := fun _ _ _ _ x y => gcompare_any x y _
theorem gs_perm_eq : ∀ {m m' : List Gs}, m.Pairwise (fun a b => zLt (nameG a) (nameG b) = true) → m'.Pairwise (fun a b => zLt (nameG a) (nameG b) = true) → m.Perm m' → m = m'
 | [], m', _, _, hp => (List.nil_perm.1 hp).symm
 | a :: m, [], _, _, hp => by have := hp.length_eq; simp at this
 | a :: m, b :: m', h, h', hp => by
  obtain ⟨h1, h2⟩ := List.pairwise_cons.1 h
  obtain ⟨h3, h4⟩ := List.pairwise_cons.1 h'
  have e : a = b := by
   rcases List.mem_cons.1 (hp.mem_iff.1 (List.mem_cons_self ..)) with e | e
   ·exact e
   ·rcases List.mem_cons.1 (hp.mem_iff.2 (List.mem_cons_self ..)) with e' | e'
    ·exact e'.symm
    ·have k1 := h3 a e
     have k2 := h1 b e'
     have := zLt_trans k1 k2
     rw [zLt_irrefl] at this
     cases this
  subst e
  rw [gs_perm_eq h2 h4 (List.Perm.cons_inv hp)]
theorem sortedG_is {m d : List Gs} {d' : Array Gs} (hw : m.Pairwise (fun a b => zLt (nameG a) (nameG b) = true)) (hp : d.Perm m) (hq : PermIn 0 d.length d.toArray d') (hs : SortedIn aheadG 0 d.length d') : d'.toList = m := by
 obtain ⟨h1, _, h3⟩ := hq
 have hsz : d'.size = d.length := by simpa using h1
 have e1 : (d'.extract 0 d.length).toList = d'.toList := by
  rw [Array.toList_extract, ← hsz]; simp [List.take_of_length_le]
 have e2 : (d.toArray.extract 0 d.length).toList = d := by simp
 rw [e1, e2] at h3
 have hpm : d'.toList.Perm m := h3.trans hp
 refine gs_perm_eq ?_ hw hpm
 have hk : (d'.toList.map nameG).Nodup := by
  refine (hpm.map nameG).nodup_iff.2 ?_
  unfold List.Nodup
  rw [List.pairwise_map]
  exact hw.imp fun h e => by rw [e, zLt_irrefl] at h; cases h
 rw [List.pairwise_iff_getElem]
 intro i j hi hj hij
 have hj' : j < d'.size := by simpa using hj
 have hi' : i < d'.size := by simpa using hi
 have := hs i j (Nat.zero_le _) hij (by omega)
 rw [getElem!_pos d' j hj', getElem!_pos d' i hi', aheadG_lt] at this
 simp only [Array.getElem_toList]
 refine zLt_other this ?_
 intro e
 unfold List.Nodup at hk
 rw [List.pairwise_map, List.pairwise_iff_getElem] at hk
 exact hk i j hi hj hij (by simpa using e.symm)
def RowG (w : World) (g : Nat) (m : List Gs) : Prop := ∀ i x, m[i]? = some x → w.cell? ⟨g, i * 2, none⟩ = some (.string x.1.1) ∧ w.cell? ⟨g, i * 2 + 1, none⟩ = some (.int .i64 x.1.2)
theorem RowG.below {w w' : World} {g : Nat} {m : List Gs} (h : RowG w g m) (hb : Below w.heap.size w w') : RowG w' g m := fun i x hi => by
 obtain ⟨h1, h2⟩ := h i x hi
 exact ⟨(hb.cell (p := ⟨g, i * 2, none⟩) (cell_lt h1)).trans h1, (hb.cell (p := ⟨g, i * 2 + 1, none⟩) (cell_lt h2)).trans h2⟩
theorem rowG_holds {w : World} {g : Nat} {d : Array Gs} {m : List Gs} (hd : d.toList = m) (h : HoldsK encGd.enc 2 w g 0 d) : RowG w g m := by
 subst hd
 intro i x hi
 have hlt : i < d.size := by have := (List.getElem?_eq_some_iff.1 hi).1; simpa using this
 have hx : d[i]! = x := by
  rw [getElem!_pos d i hlt]
  obtain ⟨_, e⟩ := List.getElem?_eq_some_iff.1 hi
  simpa using e
 have key : ∀ c, c < 2 → w.cell? ⟨g, i * 2 + c, none⟩ = some ((encGd.enc x)[c]!) := by
  intro c hc
  have := (h (i * 2 + c) (by rw [size_flatK]; omega)).1
  rw [Nat.zero_add, get_flatK encGd.enc 2 d _ (by omega), show (i * 2 + c) / 2 = i by omega, show (i * 2 + c) % 2 = c by omega, hx] at this
  exact this
 exact ⟨key 0 (by decide), key 1 (by decide)⟩
theorem flatG_array (m : List Gs) : (flatK encGd.enc 2 m.toArray).toList = encGd.flat m := by
 apply List.ext_getElem?
 intro j
 by_cases hj : j < m.length * 2
 ·have hi : j / 2 < m.length := by omega
  have h1 : m[j / 2]? = some m[j / 2] := List.getElem?_eq_getElem hi
  have h2 := encGd.flat_get (j % 2) h1 (show j % 2 < 2 by omega)
  rw [show j / 2 * encGd.k + j % 2 = j by show j / 2 * 2 + j % 2 = j; omega] at h2
  rw [h2, Array.getElem?_toList, Array.getElem?_eq_getElem (by rw [size_flatK]; simpa using hj)]
  have h3 := get_flatK encGd.enc 2 m.toArray j (by simpa using hj)
  rw [getElem!_pos _ j (by rw [size_flatK]; simpa using hj)] at h3
  rw [h3, getElem!_pos m.toArray (j / 2) (by simpa using hi), List.getElem_toArray, getElem!_pos _ (j % 2) (by rw [encGd_len]; omega), List.getElem?_eq_getElem (by rw [encGd_len]; omega)]
 ·rw [List.getElem?_eq_none (l := encGd.flat m) (by rw [encGd.flat_len]; show m.length * 2 ≤ j; omega), List.getElem?_eq_none (by rw [Array.length_toList, size_flatK]; simpa using hj)]
theorem own_holdsG {w : World} {base g cap : Nat} {m : List Gs} (h : w.ownsRow base 24 2 (.slice (some ⟨g, 0, none⟩) m.length cap) m.length (encGd.flat m)) : HoldsK encGd.enc 2 w g 0 m.toArray := by
 intro j hj
 have hj' : j < m.length * 2 := by rw [size_flatK] at hj; simpa using hj
 refine ⟨?_, ?_⟩
 ·rw [Nat.zero_add]
  have := h.cells (g := g) rfl j ((flatK encGd.enc 2 m.toArray)[j]!) (by rw [← flatG_array, Array.getElem?_toList, Array.getElem?_eq_getElem hj, getElem!_pos _ j hj])
  rw [Go.WideShapes.add_plain] at this
  simpa using this
 ·rw [Nat.zero_add]; exact h.frozenAt j
theorem values_any (b : Nat) (w : World) : Calls Tryz.prog 57 #[.map (some b)] w fun e w' => e = .returned (.func (.func 97) #[] #[.pointer (some ⟨w.heap.size, 0, none⟩)]) ∧ w' = w.alloc (.cells #[.map (some b)] 90) := by
 go_enter Tryz.func57, Tryz.ntmps57
 go_wp2
 go_ret
 exact ⟨rfl, rfl⟩
theorem collectG (Bm b : Nat) (m : List Gs) (w : World) (h30 : m.length ≤ 1000) (hB : Bm < w.heap.size) (hc : w.cell? ⟨Bm, 0, none⟩ = some (.map (some b))) (hmap : MapL Tryz.prog 9 w b (m.map entG)) :
  Calls Tryz.prog 95 #[.func (.func 97) #[] #[.pointer (some ⟨Bm, 0, none⟩)]] w fun e w' => ∃ v xs, e = .returned v ∧ xs.Perm m ∧ w'.ownsRow w.heap.size 24 2 v xs.length (encGd.flat xs) ∧ (v = .slice none 0 0 ↔ xs = []) ∧ Below w.heap.size w w' := by
 have HA : Hid (Calls Tryz.prog 140 _ _ _) := appendSeqG Bm b m w h30 hB hc hmap
 clear hmap hc hB
 go_enter Tryz.func95, Tryz.ntmps95
 go_wp2_with (go_at_call 140; refine HA.out.mono ?_; rintro e w1 ⟨v, xs, rfl, h1, h2, h3, h4⟩)
 go_ret
 exact ⟨v, xs, rfl, h1, h2, h3, h4⟩
def GoodsAt (w : World) (B : Nat) (v : Value) (m : List Gs) : Prop := (v = .slice none 0 0 ∧ m = []) ∨ ∃ g cap, v = .slice (some ⟨g, 0, none⟩) m.length cap ∧ B ≤ g ∧ g < w.heap.size ∧ RowG w g m
theorem below_sortG {B : Nat} (w : World) (blk off n : Nat) (d : Array Gs) (os : Array Obj) (hB : B ≤ w.heap.size) (hb : B ≤ blk) : Below B w (sortWorldK encGd.enc 2 w blk off n d os) := by
 refine ⟨rfl, rfl, rfl, ?_, fun k hk => ?_⟩
 ·unfold sortWorldK; rw [size_grow, size_putRowK]; simp
 ·unfold sortWorldK
  rw [heap_grow_old _ _ (by rw [size_putRowK]; simp; omega)]
  show (w.heap.modify blk _)[k]? = _
  rw [Array.getElem?_modify, if_neg (by omega)]
theorem sortedFuncG (Bm b : Nat) (m : List Gs) (w : World) (h30 : m.length ≤ 30) (hs : m.Pairwise (fun a b => zLt (nameG a) (nameG b) = true)) (hB : Bm < w.heap.size) (hc : w.cell? ⟨Bm, 0, none⟩ = some (.map (some b))) (hmap : MapL Tryz.prog 9 w b (m.map entG)) :
  Calls Tryz.prog 56 #[.func (.func 97) #[] #[.pointer (some ⟨Bm, 0, none⟩)], .func (.func 58) #[] #[]] w fun e w' => ∃ v, e = .returned v ∧ GoodsAt w' w.heap.size v m ∧ Below w.heap.size w w' := by
 have HC : Hid (Calls Tryz.prog 95 _ _ _) := collectG Bm b m w (by omega) hB hc hmap
 have eg : ∀ args w, (callFunc 58 args).run Tryz.prog w = .ok (.enter 58 args) w := enters_of Tryz.func58 (by kernel_rfl) rfl
 have HN : Hid (∀ w1, Calls Tryz.prog 96 #[.slice none 0 0, .func (.func 58) #[] #[]] w1 _) := fun w1 => AnyF.slices_SortFunc_none Tryz.laysSortG none 0 (.func (.func 58) #[] #[]) w1
 have hso := fun g cap (d : List Gs) w1 (hd : d.length ≤ 30) (hH : HoldsK encGd.enc 2 w1 g 0 d.toArray) (hg : g < w1.heap.size) => AnyQ.slices_SortFunc Tryz.laysSortG 2 Tryz.isAgg24 Tryz.sizeOf24 encGd.enc encGd_len encGd.one cmpG swoG 58 #[] g 0 cap d.toArray w1 eg (cmpLaysG g 0 d.toArray.size w1) hH hg (by simp only [List.size_toArray]; omega)
 change ∀ g cap (d : List Gs) w1, _ → _ → _ → Calls Tryz.prog 96 _ _ _ at hso
 simp only [List.size_toArray] at hso
 have HO : Hid (∀ g cap (d : List Gs) w1, _ → _ → _ → Calls Tryz.prog 96 _ _ _) := hso
 have HS : Hid (m.Pairwise (fun a b => zLt (nameG a) (nameG b) = true)) := hs
 have H30 : Hid (m.length ≤ 30) := h30
 clear eg hso hmap hc hB hs h30
 go_enter Tryz.func56, Tryz.ntmps56
 go_wp2_with (first
  | (go_at_call 95; refine HC.out.mono ?_; rintro e w1 ⟨v, xs, rfl, h1, h2, h3, h4⟩))
 rcases h2.2 with ⟨hv, h0⟩ | ⟨g, cap, cur, hv, hgB, hgb, _⟩
 ·subst hv
  have hx := h3.1 rfl
  subst hx
  have hm : m = [] := List.nil_perm.1 h1
  have HM : Hid (m = []) := hm
  clear h1 h2 h3 h0 hm
  go_wp2_with (go_at_call 96; refine (HN.out _).mono ?_; rintro e w2 ⟨rfl, hw⟩; have hw' := hw.symm; subst hw')
  go_ret
  exact ⟨_, rfl, Or.inl ⟨rfl, HM.out⟩, h4⟩
 ·subst hv
  have hH := own_holdsG h2
  have hlt : g < w1.heap.size := (Array.getElem?_eq_some_iff.1 hgb).1
  have hl : xs.length ≤ 30 := by have := h1.length_eq; have := H30.out; omega
  have hln : xs.length = m.length := h1.length_eq
  have HCc : Hid (Calls Tryz.prog 96 _ _ _) := HO.out g cap xs w1 hl hH hlt
  have HH : Hid (HoldsK encGd.enc 2 w1 g 0 xs.toArray) := hH
  have HP : Hid (xs.Perm m) := h1
  have HG : Hid (w.heap.size ≤ g ∧ g < w1.heap.size ∧ xs.length = m.length) := ⟨hgB, hlt, hln⟩
  clear h1 h2 h3 hH hgB hgb hlt hl hln
  go_wp2_with (go_at_call 96; refine HCc.out.mono ?_; rintro e w2 ⟨rfl, d', q, os, hq, hs, rfl⟩)
  go_ret
  obtain ⟨k1, k2, k3⟩ := HG.out
  have hb9 := below_sortG (B := w.heap.size) w1 g 0 q d' os h4.size k1
  refine ⟨_, rfl, Or.inr ⟨g, cap, by rw [← k3]; rfl, k1, Nat.lt_of_lt_of_le k2 hb9.size, rowG_holds (sortedG_is HS.out HP.out hq hs) (SWK.holds ⟨q, os, rfl⟩ k2 HH.out hq.1)⟩, h4.trans hb9⟩
theorem bgoods_any (w : World) (B : Nat) (x : Bl) (b : Bk) (h : IsBk w B x b) :
  Calls Tryz.prog 15 #[.pointer (some ⟨x.p, 0, none⟩)] w fun e w' => ∃ v, e = .returned v ∧ GoodsAt w' w.heap.size v b.1 ∧ Below w.heap.size w w' := by
 have hW := whole_any w B x b h
 obtain ⟨ps, bs, h⟩ := h
 obtain ⟨p0, _⟩ := h.cells
 have hb1 : Below w.heap.size w (w.alloc (.cells #[.map (some x.g)] 90)) := (Below.refl _ w).alloc (Nat.le_refl _) _
 have n1 := heap_alloc_new w (.cells #[.map (some x.g)] 90)
 have HS : Hid (Calls Tryz.prog 56 _ _ _) := sortedFuncG w.heap.size x.g b.1 (w.alloc (.cells #[.map (some x.g)] 90)) h.ok.wf.gl h.ok.gs (by simp) (by rw [cell_of_heap n1]; rfl) (h.all hb1).G
 have HV : Hid (Calls Tryz.prog 57 _ _ _) := values_any x.g w
 have HW : Hid (Calls Tryz.prog 41 _ _ _) := hW
 have HB : Hid (Below _ _ _) := hb1
 clear h hW hb1 n1
 go_enter Tryz.func15, Tryz.ntmps15
 go_wp2_with (first
  | (go_at_call 41; refine HW.out.mono ?_; rintro e w1 ⟨rfl, hw⟩; have hw' := hw.symm; subst hw')
  | (go_at_call 57; refine HV.out.mono ?_; rintro e w2 ⟨rfl, rfl⟩)
  | (go_at_call 56; refine HS.out.mono ?_; rintro e w3 ⟨v, rfl, hg, hb⟩))
 go_ret
 refine ⟨v, rfl, ?_, HB.out.trans (hb.mono HB.out.size)⟩
 rcases hg with hg | ⟨g, cap, h1, h2, h3, h4⟩
 ·exact Or.inl hg
 ·exact Or.inr ⟨g, cap, h1, Nat.le_trans HB.out.size h2, h3, h4⟩
end Go.Proofs.YteomomeigbfeoaaGreatDoor
namespace Go.Proofs.YteomomeigbfeoaaGreatDoor
open Go.RowKit Go.Lib Go.Sort
theorem perm_map_consF {α : Type} {f : α → Ent} {t : List α} {x : Ent} {T : List Ent} (h : (t.map f).Perm (x :: T)) : ∃ l t', x = f l ∧ t.Perm (l :: t') ∧ T.Perm (t'.map f) := by
 obtain ⟨l, hl, e⟩ := List.mem_map.1 (h.mem_iff.2 (List.mem_cons_self ..))
 obtain ⟨s1, s2, rfl⟩ := List.append_of_mem hl
 have h1 : (s1 ++ l :: s2).Perm (l :: (s1 ++ s2)) := List.perm_middle
 refine ⟨l, s1 ++ s2, e.symm, h1, ?_⟩
 have h2 := (h1.map f).symm.trans h
 rw [List.map_cons, e] at h2
 exact h2.cons_inv.symm
section
variable {P : Program} {k : TypeId} {w : World} {ops : Array Oper} {rest : List Oper} {o : Oper} {a : Act} {Q : Exit → Act → World → Prop}
theorem wpQ_next (hg : o.guard = none) (it : Operand) (hop : o.op = Op.next it false) (b r : Nat) (L : List Ent) (t : List Lh) (hit : a.eval it = .pointer (some ⟨r, 0, none⟩)) (h : RangeL P k w b r L (t.map entL))
  (hDone : t = [] → wpList P ops Q rest (a.put o.dst (.tuple #[.bool false])) w)
  (hMore : ∀ (zi zc : ByteArray) (zu zk zh : Int) t' w', t.Perm (((zi, zc, zu, zk), zh) :: t') → RangeL P k w' b r L (t'.map entL) → w.grownBy w' (some r) → w'.heap.size = w.heap.size → (Instr.entry (.pointer (some ⟨r, 0, none⟩))).run P w' = .ok (.tuple #[.string zi, .agg #[.string zi, .string zc, .int .i64 zu, .int .i64 zk]]) w' →
   wpList P ops Q rest (a.put o.dst (.tuple #[.bool true, .string zi, .agg #[.string zi, .string zc, .int .i64 zu, .int .i64 zk]])) w') : wpList P ops Q (o :: rest) a w := by
 refine wpL_next hg it hop k b r L (t.map entL) hit h (fun e => hDone (by simpa using e)) fun x T' w' hp hrg hgr hsz hen => ?_
 obtain ⟨l, t', rfl, h1, h2⟩ := perm_map_consF hp
 obtain ⟨⟨zi, zc, zu, zk⟩, zh⟩ := l
 exact hMore zi zc zu zk zh t' w' h1 (hrg.perm h2) hgr hsz hen
end
theorem hasL_app (m : List Ln) (c : ByteArray) (d d' : List Lh) : hasL m c (d ++ d') = hasL m c d + hasL m c d' := by unfold hasL; simp
theorem hasL_perm {m : List Ln} {c : ByteArray} {d d' : List Lh} (h : d.Perm d') : hasL m c d = hasL m c d' := by
 unfold hasL
 have := h.map (fun x : Lh => if x.1.2.1 = c then ofL m x.1.1 else 0)
 generalize d.map _ = A at *
 generalize d'.map _ = A' at *
 induction this with
 | nil => rfl
 | cons x _ ih => simp [ih]
 | swap x y l => simp; omega
 | trans _ _ i1 i2 => exact i1.trans i2
theorem has_step {m : List Ln} (hw : Wf m) {L d t t' : List Lh} {l : Lh} (c : ByteArray) (h60 : L.length ≤ 60) (hp : (d ++ t).Perm L) (hp1 : t.Perm (l :: t')) :
  0 ≤ hasL m c d ∧ hasL m c d ≤ 65970697666560 ∧ 0 ≤ ofL m l.1.1 ∧ ofL m l.1.1 ≤ 1099511627776 ∧ ((d ++ [l]) ++ t').Perm L ∧ hasL m c (d ++ [l]) = hasL m c d + (if l.1.2.1 = c then ofL m l.1.1 else 0) := by
 have h1 : ((d ++ [l]) ++ t').Perm L := by
  rw [List.append_assoc]
  exact ((hp1.symm.append_left d)).trans hp
 have h2 := hasL_bound hw c d
 have h3 : d.length ≤ 60 := by have := hp.length_eq; simp at this; omega
 have h4 : (d.length : Int) * 1099511627776 ≤ 60 * 1099511627776 := Int.mul_le_mul_of_nonneg_right (by omega) (by decide)
 exact ⟨h2.1, by omega, ofL_nonneg (fun x hx => hw.pos x hx) _, hw.most _, h1, by rw [hasL_app]; unfold hasL; simp⟩
theorem bhas_any (c : ByteArray) (w : World) (B : Nat) (x : Bl) (b : Bk) (h : IsBk w B x b) :
  Calls Tryz.prog 17 #[.pointer (some ⟨x.p, 0, none⟩), .string c] w fun e w' => e = .returned (.int .i64 (hasL b.2.2 c b.2.1)) ∧ Below w.heap.size w w' := by
 have hW := whole_any w B x b h
 obtain ⟨ps, bs, h⟩ := h
 obtain ⟨_, _, p2, _, p4, _⟩ := h.cells
 have hm := h.L
 have hlt := h.lts
 have HS : Hid (∀ W, Below w.heap.size w W → IsStock W ps bs b.2.2) := fun W hb => (h.all hb).S
 have HP4 : Hid (∀ W, Below w.heap.size w W → W.cell? ⟨x.p, 4, none⟩ = some (.pointer (some ⟨ps, 0, none⟩))) := fun W hb => (h.all hb).cells.2.2.2.2.1
 have HWf : Hid (Wf b.2.2) := h.ok.wf.st
 have H60 : Hid (b.2.1.length ≤ 60) := h.ok.wf.ll
 have HO : Hid (∀ W z, Below w.heap.size w W → Calls Tryz.prog 22 #[.pointer (some ⟨ps, 0, none⟩), .string z] W fun r w' => r = .returned (.int .i64 (ofL b.2.2 z)) ∧ Below W.heap.size W w') := fun W z hb => of_any z W ps bs b.2.2 (h.all hb).S
 have HWh : Hid (Calls Tryz.prog 41 _ _ _) := hW
 clear h hW
 go_enter Tryz.func17, Tryz.ntmps17
 go_wp2_with (first
  | (go_at_call 41; refine HWh.out.mono ?_; rintro e w1 ⟨rfl, hw⟩; have hw' := hw.symm; subst hw')
  | (at_range; refine wpL_range rfl _ 93 rfl 9 26 Tryz.underlying93 x.l (b.2.1.map entL) rfl hm ?_; intro w0 hrg0 hg0 hs0))
 go_frame
 have hb0 : Below w.heap.size w w0 := ⟨hg0.os, hg0.tape, hg0.output, hg0.size, fun k hk => hg0.block k hk (by simp)⟩
 have HL : Hid (x.l < w.heap.size) := hlt.2.2.2.1
 clear hg0 hs0 hm hlt
 go_loopw [6] (fun s wr => ∃ d t : List Lh, (d ++ t).Perm b.2.1 ∧ s = .int .i64 (hasL b.2.2 c d) ∧ RangeL Tryz.prog 9 wr x.l w.heap.size (b.2.1.map entL) (t.map entL) ∧ Below w.heap.size w wr) (fun _ wr => wr.rangeLeft x.l w.heap.size)
 case atStart => exact ⟨[], b.2.1, List.Perm.refl _, rfl, hrg0, hb0⟩
 case round =>
  obtain ⟨d, t, hp, rfl, hrg, hb⟩ := hrel
  go_wp2_with (at_next; refine wpQ_next rfl _ rfl x.l w.heap.size _ t rfl hrg ?_ ?_)
  ·intro ht
   subst ht
   have e : hasL b.2.2 c d = hasL b.2.2 c b.2.1 := by rw [← hasL_perm hp]; simp
   go_wp2
   go_ret
   exact ⟨by rw [← e]; rfl, hb⟩
  ·intro zi zc zu zk zh t' w1 hp1 hrg1 hg1 hs1 hen
   have hb1 := grown_below hb (Nat.le_refl _) hg1
   obtain ⟨q1, q2, q3, q4, q5, q6⟩ := has_step HWf.out c H60.out hp hp1
   have HP : Hid (((d ++ [((zi, zc, zu, zk), zh)]) ++ t').Perm b.2.1) := q5
   have HQ : Hid (hasL b.2.2 c (d ++ [((zi, zc, zu, zk), zh)]) = _) := q6
   have HM : Hid (wr.rangeLeft x.l w.heap.size = w1.rangeLeft x.l w.heap.size + 1) := by
    show _ = _
    rw [hrg.left_eq, hrg1.left_eq]
    have := hp1.length_eq
    simpa using this
   have hbN := hb1.alloc hb1.size (.cells #[.string zi, .string zc, .int .i64 zu, .int .i64 zk] 26)
   have hbM : Below w1.heap.size w1 (w1.alloc (.cells #[.string zi, .string zc, .int .i64 zu, .int .i64 zk] 26)) := (Below.refl _ w1).alloc (Nat.le_refl _) _
   have nN := heap_alloc_new w1 (.cells #[.string zi, .string zc, .int .i64 zu, .int .i64 zk] 26)
   obtain ⟨W2, hW2⟩ : ∃ W2, w1.alloc (.cells #[.string zi, .string zc, .int .i64 zu, .int .i64 zk] 26) = W2 := ⟨_, rfl⟩
   rw [hW2] at hbN nN hbM
   have hrg2 : RangeL Tryz.prog 9 W2 x.l w.heap.size (b.2.1.map entL) (t'.map entL) := hrg1.below hbM hrg1.map.lt hrg1.lt
   have hl2 : W2.rangeLeft x.l w.heap.size = w1.rangeLeft x.l w.heap.size := hrg2.left_eq.trans hrg1.left_eq.symm
   have c1 : W2.cell? ⟨w1.heap.size, 1, none⟩ = some (.string zc) := by rw [cell_of_heap nN]; rfl
   have c4 := HP4.out _ hbN
   have HR2 : Hid (RangeL _ _ _ _ _ _ _) := hrg2
   have HB2 : Hid (Below _ _ _) := hbN
   have HL2 : Hid (W2.rangeLeft x.l w.heap.size = w1.rangeLeft x.l w.heap.size) := hl2
   clear q5 q6 hp hp1 hrg hrg1 hg1 hb hbN hbM nN hrg2 hl2 hs1
   simp only at q3 q4
   by_cases hz : zc = c
   ·subst hz
    go_wp2_with (go_at_call 22; refine (HO.out _ _ HB2.out).mono ?_; rintro r w3 ⟨rfl, hb3⟩)
    go_roundw
    case rel => exact ⟨_, t', HP.out, by rw [HQ.out]; simp, HR2.out.below hb3 HR2.out.map.lt HR2.out.lt, HB2.out.trans (hb3.mono HB2.out.size)⟩
    case measure => show World.rangeLeft _ _ _ < _; rw [HM.out, (HR2.out.below hb3 HR2.out.map.lt HR2.out.lt).left_eq, ← HR2.out.left_eq, HL2.out]; exact Nat.lt_succ_self _
   ·have e3 := same_eq zc c
    rw [decide_eq_false hz] at e3
    go_wp2
    go_roundw
    case rel => exact ⟨_, t', HP.out, by rw [HQ.out, if_neg hz, Int.add_zero], HR2.out, HB2.out⟩
    case measure => show World.rangeLeft _ _ _ < _; rw [HM.out, HL2.out]; exact Nat.lt_succ_self _
end Go.Proofs.YteomomeigbfeoaaGreatDoor
namespace Go.Proofs.YteomomeigbfeoaaGreatDoor
open Go.RowKit Go.Lib Go.Sort Go.Shelf
def encLq : Enc Lo where
 k := 4
 enc l := encL l
 len _ := rfl
 one l v hv := encL_one l v hv
def lotsOf (m : List Lh) (c : ByteArray) : List Lo := (m.filter fun l => decide (l.1.2.1 = c)).map (·.1)
theorem lotsOf_app (m m' : List Lh) (c : ByteArray) : lotsOf (m ++ m') c = lotsOf m c ++ lotsOf m' c := by unfold lotsOf; simp
theorem lotsOf_hit {l : Lh} {c : ByteArray} (h : l.1.2.1 = c) : lotsOf [l] c = [l.1] := by unfold lotsOf; simp [h]
theorem lotsOf_miss {l : Lh} {c : ByteArray} (h : l.1.2.1 ≠ c) : lotsOf [l] c = [] := by unfold lotsOf; simp [h]
theorem lotsOf_perm {m m' : List Lh} (h : m.Perm m') (c : ByteArray) : (lotsOf m c).Perm (lotsOf m' c) := (h.filter _).map _
theorem lotsOf_le (m : List Lh) (c : ByteArray) : (lotsOf m c).length ≤ m.length := by unfold lotsOf; simpa using List.length_filter_le _ _
theorem flatLo_array (m : List Lo) : (flatK encL 4 m.toArray).toList = encLq.flat m := by
 apply List.ext_getElem?
 intro j
 by_cases hj : j < m.length * 4
 ·have hi : j / 4 < m.length := by omega
  have h1 : m[j / 4]? = some m[j / 4] := List.getElem?_eq_getElem hi
  have h2 := encLq.flat_get (j % 4) h1 (show j % 4 < 4 by omega)
  rw [show j / 4 * encLq.k + j % 4 = j by show j / 4 * 4 + j % 4 = j; omega] at h2
  rw [h2, Array.getElem?_toList, Array.getElem?_eq_getElem (by rw [size_flatK]; simpa using hj)]
  have h3 := get_flatK encL 4 m.toArray j (by simpa using hj)
  rw [getElem!_pos _ j (by rw [size_flatK]; simpa using hj)] at h3
  rw [h3, getElem!_pos m.toArray (j / 4) (by simpa using hi), List.getElem_toArray, getElem!_pos _ (j % 4) (by rw [encL_len]; omega), List.getElem?_eq_getElem (by show _ < (encL _).length; rw [encL_len]; omega)]
  rfl
 ·rw [List.getElem?_eq_none (l := encLq.flat m) (by rw [encLq.flat_len]; show m.length * 4 ≤ j; omega), List.getElem?_eq_none (by rw [Array.length_toList, size_flatK]; simpa using hj)]
theorem own_rowLo {w : World} {base g cap : Nat} {m : List Lo} (h : w.ownsRow base 26 4 (.slice (some ⟨g, 0, none⟩) m.length cap) m.length (encLq.flat m)) : RowL w g 0 m.toArray := by
 intro j hj
 have hj2 : j < m.length * 4 := by simpa using hj
 have hj3 : j < (flatK encL 4 m.toArray).size := by rw [size_flatK]; exact hj
 have := h.cells (g := g) rfl j ((flatK encL 4 m.toArray)[j]!) (by rw [← flatLo_array, Array.getElem?_toList, Array.getElem?_eq_getElem hj3, getElem!_pos _ j hj3])
 rw [Go.WideShapes.add_plain] at this
 simpa using this
def LotsAt (w : World) (B : Nat) (v : Value) (d : Array Lo) : Prop := (v = .slice none 0 0 ∧ d = #[]) ∨ ∃ g cap, v = .slice (some ⟨g, 0, none⟩) d.size cap ∧ B ≤ g ∧ RowL w g 0 d
theorem LotsAt.below {w w' : World} {B : Nat} {v : Value} {d : Array Lo} (h : LotsAt w B v d) (hb : Below w.heap.size w w') : LotsAt w' B v d := by
 rcases h with h | ⟨g, cap, h1, h2, h3⟩
 ·exact Or.inl h
 ·exact Or.inr ⟨g, cap, h1, h2, h3.below hb⟩
theorem blots_any (c : ByteArray) (w : World) (B : Nat) (x : Bl) (b : Bk) (h : IsBk w B x b) (h59 : b.2.1.length ≤ 59) :
  Calls Tryz.prog 20 #[.pointer (some ⟨x.p, 0, none⟩), .string c] w fun e w' => ∃ v d, e = .returned v ∧ LotsAt w' w.heap.size v d ∧ d.toList.Perm (lotsOf b.2.1 c) ∧ SortedIn soonL 0 d.size d ∧ Below w.heap.size w w' := by
 obtain ⟨i0, hi, hz0, hz1, hz2⟩ := info_parts Tryz.infoLo
 have hW := whole_any w B x b h
 obtain ⟨ps, bs, h⟩ := h
 obtain ⟨_, _, p2, _, _, _⟩ := h.cells
 have hm := h.L
 have hlt := h.lts
 have HWh : Hid (Calls Tryz.prog 41 _ _ _) := hW
 have H59 : Hid (b.2.1.length ≤ 59) := h59
 clear h hW h59
 go_enter Tryz.func20, Tryz.ntmps20
 go_wp2_with (first
  | (go_at_call 41; refine HWh.out.mono ?_; rintro e w1 ⟨rfl, hw⟩; have hw' := hw.symm; subst hw')
  | (at_range; refine wpL_range rfl _ 93 rfl 9 26 Tryz.underlying93 x.l (b.2.1.map entL) rfl hm ?_; intro w0 hrg0 hg0 hs0))
 go_frame
 have hb0 : Below w.heap.size w w0 := ⟨hg0.os, hg0.tape, hg0.output, hg0.size, fun k hk => hg0.block k hk (by simp)⟩
 have hz00 : w.heap.size < w0.heap.size := by omega
 have HL : Hid (x.l < w.heap.size) := hlt.2.2.2.1
 clear hg0 hs0 hm hlt
 go_loopw [5] (fun s wr => ∃ d t : List Lh, (d ++ t).Perm b.2.1 ∧ wr.ownsRow (w.heap.size + 1) 26 4 s (lotsOf d c).length (encLq.flat (lotsOf d c)) ∧ RangeL Tryz.prog 9 wr x.l w.heap.size (b.2.1.map entL) (t.map entL) ∧ Below w.heap.size w wr) (fun _ wr => wr.rangeLeft x.l w.heap.size)
 case atStart => exact ⟨[], b.2.1, List.Perm.refl _, World.ownsRow_nil _ _ _ _, hrg0, hb0⟩
 case round =>
  obtain ⟨d, t, hp, hown, hrg, hb⟩ := hrel
  have hlt9 := hrg.lt
  have hdl : (lotsOf d c).length ≤ 59 := by have h1 := lotsOf_le d c; have h2 := hp.length_eq; have := H59.out; simp at h2; omega
  go_wp2_with (at_next; refine wpQ_next rfl _ rfl x.l w.heap.size _ t rfl hrg ?_ ?_)
  ·intro ht
   subst ht
   have hpd : d.Perm b.2.1 := by simpa using hp
   have HP : Hid ((lotsOf d c).Perm (lotsOf b.2.1 c)) := lotsOf_perm hpd c
   rcases hown.2 with ⟨hv, h0⟩ | ⟨g, cap, cur, hv, hgB, hgb, _⟩
   ·subst hv
    have hx : lotsOf d c = [] := by
     have := h0
     rcases hl : lotsOf d c with _ | ⟨a, r⟩
     ·rfl
     ·rw [hl] at this; simp at this
    have HX : Hid (lotsOf d c = []) := hx
    clear hown hrg hp hpd h0 hx
    go_wp2_with (go_at_call 61; refine (sorted_none _).mono ?_; rintro r w3 ⟨rfl, hw⟩; have hw' := hw.symm; subst hw')
    go_ret
    exact ⟨_, #[], rfl, Or.inl ⟨rfl, rfl⟩, by have := HP.out; rw [HX.out] at this; exact this, fun i j _ h1 h2 => absurd h2 (by simp), hb⟩
   ·subst hv
    have hR := own_rowLo hown
    have hsz : (lotsOf d c).toArray.size ≤ 59 := by simpa using hdl
    have hC := sorted_some g 0 cap (lotsOf d c).toArray wr hsz hR
    simp only [List.size_toArray] at hC
    have HC : Hid (Calls Tryz.prog 61 _ _ _) := hC
    clear hown hrg hp hpd hR hC hgB hgb
    go_wp2_with (go_at_call 61; refine HC.out.mono ?_; rintro r w3 ⟨g', cap', d', rfl, hg', hst, hH, hb3⟩)
    go_ret
    obtain ⟨⟨q1, q2, q3⟩, hso, _⟩ := hst
    have hsz' : d'.size = (lotsOf d c).length := by simpa using q1
    have e1 : (d'.extract 0 (lotsOf d c).length).toList = d'.toList := by rw [Array.toList_extract, ← hsz']; simp [List.take_of_length_le]
    have e2 : ((lotsOf d c).toArray.extract 0 (lotsOf d c).length).toList = lotsOf d c := by simp
    rw [e1, e2] at q3
    exact ⟨_, d', rfl, Or.inr ⟨g', cap', by rw [hsz']; rfl, Nat.le_trans hb.size hg', RowL.of_holds hH⟩, q3.trans HP.out, by rw [hsz']; exact hso, hb.trans (hb3.mono hb.size)⟩
  ·intro zi zc zu zk zh t' w1 hp1 hrg1 hg1 hs1 hen
   have hb1 := grown_below hb (Nat.le_refl _) hg1
   have hown1 := hown.kept hg1 (Or.inr (fun e9 => by have := (hown.lt _ e9).1; omega))
   have HP : Hid (((d ++ [((zi, zc, zu, zk), zh)]) ++ t').Perm b.2.1) := by
    show _
    rw [List.append_assoc]
    exact ((hp1.symm.append_left d)).trans hp
   have HM : Hid (wr.rangeLeft x.l w.heap.size = w1.rangeLeft x.l w.heap.size + 1) := by
    show _ = _
    rw [hrg.left_eq, hrg1.left_eq]
    have := hp1.length_eq
    simpa using this
   have hbN := hb1.alloc hb1.size (.cells #[.string zi, .string zc, .int .i64 zu, .int .i64 zk] 26)
   have hbM : Below w1.heap.size w1 (w1.alloc (.cells #[.string zi, .string zc, .int .i64 zu, .int .i64 zk] 26)) := (Below.refl _ w1).alloc (Nat.le_refl _) _
   have nN := heap_alloc_new w1 (.cells #[.string zi, .string zc, .int .i64 zu, .int .i64 zk] 26)
   have hown2 := hown1.alloc (.cells #[.string zi, .string zc, .int .i64 zu, .int .i64 zk] 26)
   obtain ⟨W2, hW2⟩ : ∃ W2, w1.alloc (.cells #[.string zi, .string zc, .int .i64 zu, .int .i64 zk] 26) = W2 := ⟨_, rfl⟩
   rw [hW2] at hbN nN hbM hown2
   have hrg2 : RangeL Tryz.prog 9 W2 x.l w.heap.size (b.2.1.map entL) (t'.map entL) := hrg1.below hbM hrg1.map.lt hrg1.lt
   have hl2 : W2.rangeLeft x.l w.heap.size = w1.rangeLeft x.l w.heap.size := hrg2.left_eq.trans hrg1.left_eq.symm
   have c0 : W2.cell? ⟨w1.heap.size, 0, none⟩ = some (.string zi) := by rw [cell_of_heap nN]; rfl
   have c1 : W2.cell? ⟨w1.heap.size, 1, none⟩ = some (.string zc) := by rw [cell_of_heap nN]; rfl
   have c2 : W2.cell? ⟨w1.heap.size, 2, none⟩ = some (.int .i64 zu) := by rw [cell_of_heap nN]; rfl
   have c3 : W2.cell? ⟨w1.heap.size, 3, none⟩ = some (.int .i64 zk) := by rw [cell_of_heap nN]; rfl
   have HR2 : Hid (RangeL _ _ _ _ _ _ _) := hrg2
   have HB2 : Hid (Below _ _ _) := hbN
   have HL2 : Hid (W2.rangeLeft x.l w.heap.size = w1.rangeLeft x.l w.heap.size) := hl2
   have HO2 : Hid (W2.ownsRow (w.heap.size + 1) 26 4 _ (lotsOf d c).length (encLq.flat (lotsOf d c))) := hown2
   have hlW : w.heap.size + 1 ≤ W2.heap.size := by have := hrg2.lt; omega
   clear hp hp1 hrg hrg1 hg1 hb hbN hbM nN hrg2 hl2 hs1 hown hown1 hown2
   by_cases hz : zc = c
   ·subst hz
    go_wp2_with (at_builtin; refine wpList_append_own _ rfl _ _ 52 rfl (w.heap.size + 1) 26 i0 (.agg #[.string ⟨#[]⟩, .string ⟨#[]⟩, .int .i64 0, .int .i64 0]) 4 48 Tryz.underlying52 hi hz0 hz1 hz2 rfl (by decide) _ (lotsOf d zc).length (encLq.flat (lotsOf d zc)) rfl (HO2.out.alloc _) ⟨W2.heap.size, 0, none⟩ 1 1 (encL (zi, zc, zu, zk)) rfl rfl (World.news_of_block (heap_alloc_new W2 _)) (encL_one _) (by unfold maxLen; omega) (by omega) (by simp; omega) ?_; intro v' w4 hown4 hgr4 _)
    have hR4 := (HR2.out.kept (World.grownBy_alloc W2 _ none) (by simp) (by simp)).kept hgr4 (fun e9 => by have := (HO2.out.lt _ e9.symm).1; have := HL.out; omega) (fun e9 => by have := (HO2.out.lt _ e9.symm).1; omega)
    refine ⟨⟨d ++ [((zi, zc, zu, zk), zh)], t', HP.out, ?_, hR4, (HB2.out.alloc HB2.out.size _).grown hgr4 (by simp; omega) (fun k hk => by have := (HO2.out.lt k hk).1; omega)⟩, ?_⟩
    ·rw [lotsOf_app, lotsOf_hit rfl, encLq.flat_append, encLq.flat_one, List.length_append]
     exact hown4
    ·rw [HM.out, hR4.left_eq, ← HL2.out, HR2.out.left_eq]; exact Nat.lt_succ_self _
   ·have e3 := same_eq zc c
    rw [decide_eq_false hz] at e3
    go_wp2
    go_roundw
    case rel => exact ⟨_, t', HP.out, by rw [lotsOf_app, lotsOf_miss hz, List.append_nil]; exact HO2.out, HR2.out, HB2.out⟩
    case measure => show World.rangeLeft _ _ _ < _; rw [HM.out, HL2.out]; exact Nat.lt_succ_self _
end Go.Proofs.YteomomeigbfeoaaGreatDoor
namespace Go.Proofs.YteomomeigbfeoaaGreatDoor
open Go.RowKit Go.Lib Go.Sort
theorem turn_none (w : World) (s : Nat → Addr) (B : Nat) (x : Bl) (b : Bk) (e : En) (h : IsBk w B x b) (hz : SzE e) (hs : Bs w s) (hn : ∀ y ∈ b.2.1, nameL y ≠ e.2.2.1.1) :
  Calls Tryz.prog 50 #[.pointer (some ⟨x.p, 0, none⟩), agE e] w fun r w' => r = .returned (errP s (6)) ∧ IsBk w' B x b ∧ Off x.all w w' := by
 obtain ⟨ps, bs, h⟩ := h
 have hE := BlkE.new w e
 have hb1 : Below w.heap.size w (w.alloc (celE e)) := (Below.refl _ w).alloc (Nat.le_refl _) _
 obtain ⟨W, hW⟩ : ∃ W, w.alloc (celE e) = W := ⟨_, rfl⟩
 rw [hW] at hE hb1
 have hB1 := h.all hb1
 have hq := hB1.askL_no hz.li hn
 obtain ⟨V1, V2, V3, V4, V5, e1, e2, e3, e4, e5, ⟨k1, k2, k3, k4, k5⟩, ⟨k6, k7⟩, ⟨k8, k9⟩, ⟨k10, k11⟩, n5, kb1, kb5⟩ := boxed4 W (.string ⟨#[]⟩) (.string ⟨#[]⟩) (.int .i64 0) (.int .i64 0) (.string ⟨#[]⟩) (.string ⟨#[]⟩) (.int .i64 0) (.int .i64 0) 26
 have hbV : Below w.heap.size w V5 := hb1.trans (kb5.mono hb1.size)
 have hsV : V5.cell? ⟨2, 0, none⟩ = some (err (s 5)) := (hs.below hbV).none_
 have HF : Hid (IsBk V5 B x b ∧ Off x.all w V5) := ⟨⟨ps, bs, h.all hbV⟩, Off.of_below hbV⟩
 have c3 := hE.at.c3
 obtain ⟨_, _, p2, _⟩ := hB1.cells
 clear kb1 kb5 hbV hb1 hB1 hE h hs hn n5 hz
 obtain ⟨ak, ⟨agc, agp⟩, ⟨ali, alc, alu, alk⟩, ⟨afz, afr, afb⟩, ⟨atz, atr, atb⟩, an⟩ := e
 unfold agE celE at *
 simp only at *
 go_enter Tryz.func50, Tryz.ntmps50
 go_wp2_with (at_lookup; refine wpL_ask rfl _ _ 93 rfl x.l _ _ rfl rfl hq ?_)
 go_ret
 exact ⟨rfl, HF.out⟩
theorem turn_stk (w : World) (s : Nat → Addr) (B : Nat) (x : Bl) (b : Bk) (e : En) (h : IsBk w B x b) (hz : SzE e) (hs : Bs w s) (k i : Nat) (l : Lh) (g : Gs) (hl : b.2.1[k]? = some l) (hid : nameL l = e.2.2.1.1) (hg : b.1[i]? = some g) (hgn : nameG g = l.1.2.1) (he : entErr e = 0) (h1 : e.1 ≠ kGoods) (h2 : e.1 ≠ kLot) (hc : stkE e b.2.2 ≠ 0) :
  Calls Tryz.prog 50 #[.pointer (some ⟨x.p, 0, none⟩), agE e] w fun r w' => r = .returned (errP s (stkE e b.2.2)) ∧ IsBk w' B x b ∧ Off x.all w w' := by
 obtain ⟨ps, bs, h⟩ := h
 have hE := BlkE.new w e
 have hb1 : Below w.heap.size w (w.alloc (celE e)) := (Below.refl _ w).alloc (Nat.le_refl _) _
 obtain ⟨W, hW⟩ : ∃ W, w.alloc (celE e) = W := ⟨_, rfl⟩
 rw [hW] at hE hb1
 have hB1 := h.all hb1
 have hlm := List.mem_of_getElem? hl
 have hgm := List.mem_of_getElem? hg
 have hq := hB1.askL_yes hz.li hlm hid
 obtain ⟨V1, V2, V3, V4, V5, e1, e2, e3, e4, e5, ⟨k1, k2, k3, k4, k5⟩, ⟨k6, k7⟩, ⟨k8, k9⟩, ⟨k10, k11⟩, n5, kb1, kb5⟩ := boxed4 W (.string ⟨#[]⟩) (.string ⟨#[]⟩) (.int .i64 0) (.int .i64 0) (.string l.1.1) (.string l.1.2.1) (.int .i64 l.1.2.2.1) (.int .i64 l.1.2.2.2) 26
 have hbV : Below w.heap.size w V5 := hb1.trans (kb5.mono hb1.size)
 have hT : Tw w V5.drew B x ps bs b e W.heap.size l.1 := Tw.drew ⟨hbV, h.all hbV, hE.below kb5, n5, hb1.size⟩
 have hC1 := stockAfter_any V5.drew s ps bs b.2.2 e hT.book.S hz (hs.below hT.below).five he h1 h2
 have hnum := piece_num he h1 h2
 have hsum := h.ok.wf.sums g hgm
 have hheld := h.ok.wf.held l hlm
 have hheld2 : l.2 ≤ 1099511627776 := Int.le_trans hheld.2 (h.ok.wf.st.most _)
 rw [errP_pos s hc] at hC1 ⊢
 generalize s (stkE e b.2.2 - 1) = ad at *
 have HSs : Hid (∀ W, Below w.heap.size w W → Bs W s) := fun W hb => hs.below hb
 have c3 := hE.at.c3
 obtain ⟨_, _, p2, _⟩ := hB1.cells
 have p4 := hT.book.cells.2.2.2.2.1
 obtain ⟨t0, t1, t2, t3, t4, t5, t6, t7, t8, t9, t10, t11, t12, t13⟩ := hT.ent.at; (try simp only at t0 t1 t2 t3 t4 t5 t6 t7 t8 t9 t10 t11 t12 t13)
 have HT : Hid (Tw _ _ _ _ _ _ _ _ _ _) := hT
 have HC1 : Hid (Calls Tryz.prog 91 _ _ _) := hC1
 have HV : Hid (w.heap.size ≤ V5.drew.heap.size) := hbV.size
 have _u := hgn
 clear _u
 clear kb1 kb5 hbV hb1 hB1 hE h hs hz hT hC1 hnum hsum hheld hheld2 hlm hgm hl hg hid hgn he h1 h2 hc n5
 obtain ⟨ak, ⟨agc, agp⟩, ⟨ali, alc, alu, alk⟩, ⟨afz, afr, afb⟩, ⟨atz, atr, atb⟩, an⟩ := e
 obtain ⟨⟨lli, llc, llu, llk⟩, lh⟩ := l
 unfold agE celE at *
 simp only at *
 go_enter Tryz.func50, Tryz.ntmps50
 go_wp2_with (at_lookup; refine wpL_ask rfl _ _ 93 rfl x.l _ _ rfl rfl hq ?_)
 go_region_held3 (fun w' => w'.cell? ⟨x.p, 4, none⟩ = some (.pointer (some ⟨ps, 0, none⟩)) ∧ w'.cell? ⟨w.heap.size, 0, none⟩ = some (.string ak) ∧ w'.cell? ⟨w.heap.size, 1, none⟩ = some (.string agc) ∧ w'.cell? ⟨w.heap.size, 2, none⟩ = some (.int .i64 agp) ∧ w'.cell? ⟨w.heap.size, 3, none⟩ = some (.string ali) ∧ w'.cell? ⟨w.heap.size, 4, none⟩ = some (.string alc) ∧ w'.cell? ⟨w.heap.size, 5, none⟩ = some (.int .i64 alu) ∧ w'.cell? ⟨w.heap.size, 6, none⟩ = some (.int .i64 alk) ∧ w'.cell? ⟨w.heap.size, 7, none⟩ = some (.string afz) ∧ w'.cell? ⟨w.heap.size, 8, none⟩ = some (.int .i64 afr) ∧ w'.cell? ⟨w.heap.size, 9, none⟩ = some (.int .i64 afb) ∧ w'.cell? ⟨w.heap.size, 10, none⟩ = some (.string atz) ∧ w'.cell? ⟨w.heap.size, 11, none⟩ = some (.int .i64 atr) ∧ w'.cell? ⟨w.heap.size, 12, none⟩ = some (.int .i64 atb) ∧ w'.cell? ⟨w.heap.size, 13, none⟩ = some (.int .i64 an)) (go_keep) (first | (go_at_call 91; refine HC1.out.mono ?_; rintro r w2 ⟨p', b', rfl, hns⟩; have h2 := HT.out.go hns.below; have p4b := h2.book.cells.2.2.2.2.1; obtain ⟨v0, v1, v2, v3, v4, v5, v6, v7, v8, v9, v10, v11, v12, v13⟩ := h2.ent.at; (try simp only at v0 v1 v2 v3 v4 v5 v6 v7 v8 v9 v10 v11 v12 v13); have HN2 : Hid (NewSt _ _ _ _ _) := hns; have HT2 : Hid (Tw _ _ _ _ _ _ _ _ _ _) := h2; clear hns h2))
 go_wp2
 go_ret
 exact ⟨rfl, HT2.out.fin_⟩
theorem turn_neg (w : World) (s : Nat → Addr) (B : Nat) (x : Bl) (b : Bk) (e : En) (h : IsBk w B x b) (hz : SzE e) (hs : Bs w s) (k i : Nat) (l : Lh) (g : Gs) (hl : b.2.1[k]? = some l) (hid : nameL l = e.2.2.1.1) (hg : b.1[i]? = some g) (hgn : nameG g = l.1.2.1) (he : entErr e = 0) (h1 : e.1 ≠ kGoods) (h2 : e.1 ≠ kLot) (hc : stkE e b.2.2 = 0) (hh : heldN e.1 l.2 e.2.2.2.2.2 < 0) :
  Calls Tryz.prog 50 #[.pointer (some ⟨x.p, 0, none⟩), agE e] w fun r w' => r = .returned (errP s (9)) ∧ IsBk w' B x b ∧ Off x.all w w' := by
 obtain ⟨ps, bs, h⟩ := h
 have hE := BlkE.new w e
 have hb1 : Below w.heap.size w (w.alloc (celE e)) := (Below.refl _ w).alloc (Nat.le_refl _) _
 obtain ⟨W, hW⟩ : ∃ W, w.alloc (celE e) = W := ⟨_, rfl⟩
 rw [hW] at hE hb1
 have hB1 := h.all hb1
 have hlm := List.mem_of_getElem? hl
 have hgm := List.mem_of_getElem? hg
 have hq := hB1.askL_yes hz.li hlm hid
 obtain ⟨V1, V2, V3, V4, V5, e1, e2, e3, e4, e5, ⟨k1, k2, k3, k4, k5⟩, ⟨k6, k7⟩, ⟨k8, k9⟩, ⟨k10, k11⟩, n5, kb1, kb5⟩ := boxed4 W (.string ⟨#[]⟩) (.string ⟨#[]⟩) (.int .i64 0) (.int .i64 0) (.string l.1.1) (.string l.1.2.1) (.int .i64 l.1.2.2.1) (.int .i64 l.1.2.2.2) 26
 have hbV : Below w.heap.size w V5 := hb1.trans (kb5.mono hb1.size)
 have hT : Tw w V5.drew B x ps bs b e W.heap.size l.1 := Tw.drew ⟨hbV, h.all hbV, hE.below kb5, n5, hb1.size⟩
 have hC1 := stockAfter_any V5.drew s ps bs b.2.2 e hT.book.S hz (hs.below hT.below).five he h1 h2
 have hnum := piece_num he h1 h2
 have hsum := h.ok.wf.sums g hgm
 have hheld := h.ok.wf.held l hlm
 have hheld2 : l.2 ≤ 1099511627776 := Int.le_trans hheld.2 (h.ok.wf.st.most _)
 rw [hc, errP_zero] at hC1
 have HH : Hid (∀ W, Calls Tryz.prog 92 #[.int .i64 l.2, agE e] W fun r w' => r = .returned (.int .i64 (heldN e.1 l.2 e.2.2.2.2.2)) ∧ Below W.heap.size W w') := fun W => heldAfter_any l.2 e W ⟨hheld.1, hheld2⟩ hnum
 have HLH : Hid (∀ W, Tw w W B x ps bs b e W.heap.size l.1 ∨ BkAt W B x ps bs b → (Instr.lookup 94 (.map (some x.h)) (.string e.2.2.1.1) false).run Tryz.prog W = .ok (.int .i64 l.2) W) := fun W hW => (hW.elim Tw.book id).lookH hz.li hlm hid
 have HSs : Hid (∀ W, Below w.heap.size w W → Bs W s) := fun W hb => hs.below hb
 have c3 := hE.at.c3
 obtain ⟨_, _, p2, _⟩ := hB1.cells
 have p4 := hT.book.cells.2.2.2.2.1
 obtain ⟨t0, t1, t2, t3, t4, t5, t6, t7, t8, t9, t10, t11, t12, t13⟩ := hT.ent.at; (try simp only at t0 t1 t2 t3 t4 t5 t6 t7 t8 t9 t10 t11 t12 t13)
 have HT : Hid (Tw _ _ _ _ _ _ _ _ _ _) := hT
 have HC1 : Hid (Calls Tryz.prog 91 _ _ _) := hC1
 have HV : Hid (w.heap.size ≤ V5.drew.heap.size) := hbV.size
 generalize hHN : heldN e.1 l.2 e.2.2.2.2.2 = hd at *
 have _u := hgn
 clear _u
 clear kb1 kb5 hbV hb1 hB1 hE h hs hz hT hC1 hnum hsum hheld hheld2 hlm hgm hl hg hid hgn he h1 h2 hc n5
 obtain ⟨ak, ⟨agc, agp⟩, ⟨ali, alc, alu, alk⟩, ⟨afz, afr, afb⟩, ⟨atz, atr, atb⟩, an⟩ := e
 obtain ⟨⟨lli, llc, llu, llk⟩, lh⟩ := l
 unfold agE celE at *
 simp only at *
 go_enter Tryz.func50, Tryz.ntmps50
 go_wp2_with (at_lookup; refine wpL_ask rfl _ _ 93 rfl x.l _ _ rfl rfl hq ?_)
 go_region_held3 (fun w' => w'.cell? ⟨x.p, 4, none⟩ = some (.pointer (some ⟨ps, 0, none⟩)) ∧ w'.cell? ⟨w.heap.size, 0, none⟩ = some (.string ak) ∧ w'.cell? ⟨w.heap.size, 1, none⟩ = some (.string agc) ∧ w'.cell? ⟨w.heap.size, 2, none⟩ = some (.int .i64 agp) ∧ w'.cell? ⟨w.heap.size, 3, none⟩ = some (.string ali) ∧ w'.cell? ⟨w.heap.size, 4, none⟩ = some (.string alc) ∧ w'.cell? ⟨w.heap.size, 5, none⟩ = some (.int .i64 alu) ∧ w'.cell? ⟨w.heap.size, 6, none⟩ = some (.int .i64 alk) ∧ w'.cell? ⟨w.heap.size, 7, none⟩ = some (.string afz) ∧ w'.cell? ⟨w.heap.size, 8, none⟩ = some (.int .i64 afr) ∧ w'.cell? ⟨w.heap.size, 9, none⟩ = some (.int .i64 afb) ∧ w'.cell? ⟨w.heap.size, 10, none⟩ = some (.string atz) ∧ w'.cell? ⟨w.heap.size, 11, none⟩ = some (.int .i64 atr) ∧ w'.cell? ⟨w.heap.size, 12, none⟩ = some (.int .i64 atb) ∧ w'.cell? ⟨w.heap.size, 13, none⟩ = some (.int .i64 an)) (go_keep) (first | (go_at_call 91; refine HC1.out.mono ?_; rintro r w2 ⟨p', b', rfl, hns⟩; have h2 := HT.out.go hns.below; have p4b := h2.book.cells.2.2.2.2.1; obtain ⟨v0, v1, v2, v3, v4, v5, v6, v7, v8, v9, v10, v11, v12, v13⟩ := h2.ent.at; (try simp only at v0 v1 v2 v3 v4 v5 v6 v7 v8 v9 v10 v11 v12 v13); have HN2 : Hid (NewSt _ _ _ _ _) := hns; have HT2 : Hid (Tw _ _ _ _ _ _ _ _ _ _) := h2; clear hns h2))
 go_wp2
 have h2d := HT2.out.drew
 have p3 := h2d.book.cells.2.2.2.1
 have lh2 := HLH.out _ (Or.inr h2d.book)
 obtain ⟨u0, u1, u2, u3, u4, u5, u6, u7, u8, u9, u10, u11, u12, u13⟩ := h2d.ent.at; (try simp only at u0 u1 u2 u3 u4 u5 u6 u7 u8 u9 u10 u11 u12 u13)
 have H2d : Hid (Tw _ _ _ _ _ _ _ _ _ _) := h2d
 clear h2d
 go_region_held3 (fun w' => w'.cell? ⟨x.p, 3, none⟩ = some (.map (some x.h)) ∧ (Instr.lookup 94 (.map (some x.h)) (.string ali) false).run Tryz.prog w' = .ok (.int .i64 lh) w' ∧ w'.cell? ⟨w.heap.size, 0, none⟩ = some (.string ak) ∧ w'.cell? ⟨w.heap.size, 1, none⟩ = some (.string agc) ∧ w'.cell? ⟨w.heap.size, 2, none⟩ = some (.int .i64 agp) ∧ w'.cell? ⟨w.heap.size, 3, none⟩ = some (.string ali) ∧ w'.cell? ⟨w.heap.size, 4, none⟩ = some (.string alc) ∧ w'.cell? ⟨w.heap.size, 5, none⟩ = some (.int .i64 alu) ∧ w'.cell? ⟨w.heap.size, 6, none⟩ = some (.int .i64 alk) ∧ w'.cell? ⟨w.heap.size, 7, none⟩ = some (.string afz) ∧ w'.cell? ⟨w.heap.size, 8, none⟩ = some (.int .i64 afr) ∧ w'.cell? ⟨w.heap.size, 9, none⟩ = some (.int .i64 afb) ∧ w'.cell? ⟨w.heap.size, 10, none⟩ = some (.string atz) ∧ w'.cell? ⟨w.heap.size, 11, none⟩ = some (.int .i64 atr) ∧ w'.cell? ⟨w.heap.size, 12, none⟩ = some (.int .i64 atb) ∧ w'.cell? ⟨w.heap.size, 13, none⟩ = some (.int .i64 an)) (go_keep) (first | (go_at_call 92; refine (HH.out _).mono ?_; rintro r w3 ⟨rfl, hb3⟩; have HN3 : Hid (NewSt _ _ _ _ _) := (HN2.out.later (Below.refl _ _).drew).later hb3; have h3 := H2d.out.go hb3; have p3b := h3.book.cells.2.2.2.1; have lh3 := HLH.out _ (Or.inr h3.book); obtain ⟨y0, y1, y2, y3, y4, y5, y6, y7, y8, y9, y10, y11, y12, y13⟩ := h3.ent.at; (try simp only at y0 y1 y2 y3 y4 y5 y6 y7 y8 y9 y10 y11 y12 y13); have HT3 : Hid (Tw _ _ _ _ _ _ _ _ _ _) := h3; clear hb3 h3))
 have hs3 := (HSs.out _ HT3.out.below).five.short
 go_wp2
 go_ret
 exact ⟨rfl, HT3.out.fin_⟩
theorem turn_short (w : World) (s : Nat → Addr) (B : Nat) (x : Bl) (b : Bk) (e : En) (h : IsBk w B x b) (hz : SzE e) (hs : Bs w s) (k i : Nat) (l : Lh) (g : Gs) (hl : b.2.1[k]? = some l) (hid : nameL l = e.2.2.1.1) (hg : b.1[i]? = some g) (hgn : nameG g = l.1.2.1) (he : entErr e = 0) (h1 : e.1 ≠ kGoods) (h2 : e.1 ≠ kLot) (hc : stkE e b.2.2 = 0) (hh : 0 ≤ heldN e.1 l.2 e.2.2.2.2.2) (ho : ofL (stkL e b.2.2) e.2.2.1.1 < heldN e.1 l.2 e.2.2.2.2.2) :
  Calls Tryz.prog 50 #[.pointer (some ⟨x.p, 0, none⟩), agE e] w fun r w' => r = .returned (errP s (9)) ∧ IsBk w' B x b ∧ Off x.all w w' := by
 obtain ⟨ps, bs, h⟩ := h
 have hE := BlkE.new w e
 have hb1 : Below w.heap.size w (w.alloc (celE e)) := (Below.refl _ w).alloc (Nat.le_refl _) _
 obtain ⟨W, hW⟩ : ∃ W, w.alloc (celE e) = W := ⟨_, rfl⟩
 rw [hW] at hE hb1
 have hB1 := h.all hb1
 have hlm := List.mem_of_getElem? hl
 have hgm := List.mem_of_getElem? hg
 have hq := hB1.askL_yes hz.li hlm hid
 obtain ⟨V1, V2, V3, V4, V5, e1, e2, e3, e4, e5, ⟨k1, k2, k3, k4, k5⟩, ⟨k6, k7⟩, ⟨k8, k9⟩, ⟨k10, k11⟩, n5, kb1, kb5⟩ := boxed4 W (.string ⟨#[]⟩) (.string ⟨#[]⟩) (.int .i64 0) (.int .i64 0) (.string l.1.1) (.string l.1.2.1) (.int .i64 l.1.2.2.1) (.int .i64 l.1.2.2.2) 26
 have hbV : Below w.heap.size w V5 := hb1.trans (kb5.mono hb1.size)
 have hT : Tw w V5.drew B x ps bs b e W.heap.size l.1 := Tw.drew ⟨hbV, h.all hbV, hE.below kb5, n5, hb1.size⟩
 have hC1 := stockAfter_any V5.drew s ps bs b.2.2 e hT.book.S hz (hs.below hT.below).five he h1 h2
 have hnum := piece_num he h1 h2
 have hsum := h.ok.wf.sums g hgm
 have hheld := h.ok.wf.held l hlm
 have hheld2 : l.2 ≤ 1099511627776 := Int.le_trans hheld.2 (h.ok.wf.st.most _)
 rw [hc, errP_zero] at hC1
 have HH : Hid (∀ W, Calls Tryz.prog 92 #[.int .i64 l.2, agE e] W fun r w' => r = .returned (.int .i64 (heldN e.1 l.2 e.2.2.2.2.2)) ∧ Below W.heap.size W w') := fun W => heldAfter_any l.2 e W ⟨hheld.1, hheld2⟩ hnum
 have HLH : Hid (∀ W, Tw w W B x ps bs b e W.heap.size l.1 ∨ BkAt W B x ps bs b → (Instr.lookup 94 (.map (some x.h)) (.string e.2.2.1.1) false).run Tryz.prog W = .ok (.int .i64 l.2) W) := fun W hW => (hW.elim Tw.book id).lookH hz.li hlm hid
 have HO : Hid (∀ W p' b', IsStock W p' b' (stkL e b.2.2) → Calls Tryz.prog 22 #[.pointer (some ⟨p', 0, none⟩), .string e.2.2.1.1] W fun r w' => r = .returned (.int .i64 (ofL (stkL e b.2.2) e.2.2.1.1)) ∧ Below W.heap.size W w') := fun W p' b' hi => of_any e.2.2.1.1 W p' b' (stkL e b.2.2) hi
 have HSs : Hid (∀ W, Below w.heap.size w W → Bs W s) := fun W hb => hs.below hb
 have c3 := hE.at.c3
 obtain ⟨_, _, p2, _⟩ := hB1.cells
 have p4 := hT.book.cells.2.2.2.2.1
 obtain ⟨t0, t1, t2, t3, t4, t5, t6, t7, t8, t9, t10, t11, t12, t13⟩ := hT.ent.at; (try simp only at t0 t1 t2 t3 t4 t5 t6 t7 t8 t9 t10 t11 t12 t13)
 have HT : Hid (Tw _ _ _ _ _ _ _ _ _ _) := hT
 have HC1 : Hid (Calls Tryz.prog 91 _ _ _) := hC1
 have HV : Hid (w.heap.size ≤ V5.drew.heap.size) := hbV.size
 generalize hHN : heldN e.1 l.2 e.2.2.2.2.2 = hd at *
 generalize hON : ofL (stkL e b.2.2) e.2.2.1.1 = od at *
 have _u := hgn
 clear _u
 clear kb1 kb5 hbV hb1 hB1 hE h hs hz hT hC1 hnum hsum hheld hheld2 hlm hgm hl hg hid hgn he h1 h2 hc n5
 obtain ⟨ak, ⟨agc, agp⟩, ⟨ali, alc, alu, alk⟩, ⟨afz, afr, afb⟩, ⟨atz, atr, atb⟩, an⟩ := e
 obtain ⟨⟨lli, llc, llu, llk⟩, lh⟩ := l
 unfold agE celE at *
 simp only at *
 go_enter Tryz.func50, Tryz.ntmps50
 go_wp2_with (at_lookup; refine wpL_ask rfl _ _ 93 rfl x.l _ _ rfl rfl hq ?_)
 go_region_held3 (fun w' => w'.cell? ⟨x.p, 4, none⟩ = some (.pointer (some ⟨ps, 0, none⟩)) ∧ w'.cell? ⟨w.heap.size, 0, none⟩ = some (.string ak) ∧ w'.cell? ⟨w.heap.size, 1, none⟩ = some (.string agc) ∧ w'.cell? ⟨w.heap.size, 2, none⟩ = some (.int .i64 agp) ∧ w'.cell? ⟨w.heap.size, 3, none⟩ = some (.string ali) ∧ w'.cell? ⟨w.heap.size, 4, none⟩ = some (.string alc) ∧ w'.cell? ⟨w.heap.size, 5, none⟩ = some (.int .i64 alu) ∧ w'.cell? ⟨w.heap.size, 6, none⟩ = some (.int .i64 alk) ∧ w'.cell? ⟨w.heap.size, 7, none⟩ = some (.string afz) ∧ w'.cell? ⟨w.heap.size, 8, none⟩ = some (.int .i64 afr) ∧ w'.cell? ⟨w.heap.size, 9, none⟩ = some (.int .i64 afb) ∧ w'.cell? ⟨w.heap.size, 10, none⟩ = some (.string atz) ∧ w'.cell? ⟨w.heap.size, 11, none⟩ = some (.int .i64 atr) ∧ w'.cell? ⟨w.heap.size, 12, none⟩ = some (.int .i64 atb) ∧ w'.cell? ⟨w.heap.size, 13, none⟩ = some (.int .i64 an)) (go_keep) (first | (go_at_call 91; refine HC1.out.mono ?_; rintro r w2 ⟨p', b', rfl, hns⟩; have h2 := HT.out.go hns.below; have p4b := h2.book.cells.2.2.2.2.1; obtain ⟨v0, v1, v2, v3, v4, v5, v6, v7, v8, v9, v10, v11, v12, v13⟩ := h2.ent.at; (try simp only at v0 v1 v2 v3 v4 v5 v6 v7 v8 v9 v10 v11 v12 v13); have HN2 : Hid (NewSt _ _ _ _ _) := hns; have HT2 : Hid (Tw _ _ _ _ _ _ _ _ _ _) := h2; clear hns h2))
 go_wp2
 have h2d := HT2.out.drew
 have p3 := h2d.book.cells.2.2.2.1
 have lh2 := HLH.out _ (Or.inr h2d.book)
 obtain ⟨u0, u1, u2, u3, u4, u5, u6, u7, u8, u9, u10, u11, u12, u13⟩ := h2d.ent.at; (try simp only at u0 u1 u2 u3 u4 u5 u6 u7 u8 u9 u10 u11 u12 u13)
 have H2d : Hid (Tw _ _ _ _ _ _ _ _ _ _) := h2d
 clear h2d
 go_region_held3 (fun w' => w'.cell? ⟨x.p, 3, none⟩ = some (.map (some x.h)) ∧ (Instr.lookup 94 (.map (some x.h)) (.string ali) false).run Tryz.prog w' = .ok (.int .i64 lh) w' ∧ w'.cell? ⟨w.heap.size, 0, none⟩ = some (.string ak) ∧ w'.cell? ⟨w.heap.size, 1, none⟩ = some (.string agc) ∧ w'.cell? ⟨w.heap.size, 2, none⟩ = some (.int .i64 agp) ∧ w'.cell? ⟨w.heap.size, 3, none⟩ = some (.string ali) ∧ w'.cell? ⟨w.heap.size, 4, none⟩ = some (.string alc) ∧ w'.cell? ⟨w.heap.size, 5, none⟩ = some (.int .i64 alu) ∧ w'.cell? ⟨w.heap.size, 6, none⟩ = some (.int .i64 alk) ∧ w'.cell? ⟨w.heap.size, 7, none⟩ = some (.string afz) ∧ w'.cell? ⟨w.heap.size, 8, none⟩ = some (.int .i64 afr) ∧ w'.cell? ⟨w.heap.size, 9, none⟩ = some (.int .i64 afb) ∧ w'.cell? ⟨w.heap.size, 10, none⟩ = some (.string atz) ∧ w'.cell? ⟨w.heap.size, 11, none⟩ = some (.int .i64 atr) ∧ w'.cell? ⟨w.heap.size, 12, none⟩ = some (.int .i64 atb) ∧ w'.cell? ⟨w.heap.size, 13, none⟩ = some (.int .i64 an)) (go_keep) (first | (go_at_call 92; refine (HH.out _).mono ?_; rintro r w3 ⟨rfl, hb3⟩; have HN3 : Hid (NewSt _ _ _ _ _) := (HN2.out.later (Below.refl _ _).drew).later hb3; have h3 := H2d.out.go hb3; have p3b := h3.book.cells.2.2.2.1; have lh3 := HLH.out _ (Or.inr h3.book); obtain ⟨y0, y1, y2, y3, y4, y5, y6, y7, y8, y9, y10, y11, y12, y13⟩ := h3.ent.at; (try simp only at y0 y1 y2 y3 y4 y5 y6 y7 y8 y9 y10 y11 y12 y13); have HT3 : Hid (Tw _ _ _ _ _ _ _ _ _ _) := h3; clear hb3 h3))
 go_wp2_with (go_at_call 22; refine (HO.out _ _ _ HN3.out.st).mono ?_; rintro r w4 ⟨rfl, hb4⟩; have hs4 := (HSs.out _ (HT3.out.go hb4).below).five.short; have HN4 : Hid (NewSt _ _ _ _ _) := HN3.out.later hb4; have HT4 : Hid (Tw _ _ _ _ _ _ _ _ _ _) := HT3.out.go hb4; clear hb4)
 go_ret
 exact ⟨rfl, HT4.out.fin_⟩
theorem sets4 {W : World} {A : Nat} {a b c d : Value} {t : TypeId} (n1 : W.heap[A]? = some (.cells #[a, b, c, d] t (0, 0))) (v0 v1 v2 v3 : Value) : ∃ V2 V3 V4 V5 : World, W.setCell ⟨A, 0, none⟩ v0 = V2 ∧ V2.setCell ⟨A, 1, none⟩ v1 = V3 ∧ V3.setCell ⟨A, 2, none⟩ v2 = V4 ∧ V4.setCell ⟨A, 3, none⟩ v3 = V5 ∧
  (W.cell? ⟨A, 0, none⟩ = some a ∧ W.cell? ⟨A, 1, none⟩ = some b ∧ W.cell? ⟨A, 2, none⟩ = some c ∧ W.cell? ⟨A, 3, none⟩ = some d ∧ ∀ o, W.frozen? ⟨A, o, none⟩ = false) ∧ (V2.cell? ⟨A, 1, none⟩ = some b ∧ ∀ o, V2.frozen? ⟨A, o, none⟩ = false) ∧ (V3.cell? ⟨A, 2, none⟩ = some c ∧ ∀ o, V3.frozen? ⟨A, o, none⟩ = false) ∧ (V4.cell? ⟨A, 3, none⟩ = some d ∧ ∀ o, V4.frozen? ⟨A, o, none⟩ = false) ∧
  V5.heap[A]? = some (.cells #[v0, v1, v2, v3] t (0, 0)) ∧ Off [A] W V5 := by
 have n2 : (W.setCell ⟨A, 0, none⟩ v0).heap[A]? = some (.cells #[v0, b, c, d] t (0, 0)) := set_cell n1 0 v0 rfl
 have b2 : Off [A] W (W.setCell ⟨A, 0, none⟩ v0) := (Off.refl _ W).set (by simp) v0
 refine ⟨_, _, _, _, rfl, rfl, rfl, rfl, ?_⟩
 generalize W.setCell ⟨A, 0, none⟩ v0 = V2 at *
 have n3 : (V2.setCell ⟨A, 1, none⟩ v1).heap[A]? = some (.cells #[v0, v1, c, d] t (0, 0)) := set_cell n2 1 v1 rfl
 have b3 : Off [A] W (V2.setCell ⟨A, 1, none⟩ v1) := b2.set (by simp) v1
 generalize V2.setCell ⟨A, 1, none⟩ v1 = V3 at *
 have n4 : (V3.setCell ⟨A, 2, none⟩ v2).heap[A]? = some (.cells #[v0, v1, v2, d] t (0, 0)) := set_cell n3 2 v2 rfl
 have b4 : Off [A] W (V3.setCell ⟨A, 2, none⟩ v2) := b3.set (by simp) v2
 generalize V3.setCell ⟨A, 2, none⟩ v2 = V4 at *
 exact ⟨⟨by rw [cell_of_heap n1]; rfl, by rw [cell_of_heap n1]; rfl, by rw [cell_of_heap n1]; rfl, by rw [cell_of_heap n1]; rfl, fun o => frozen_of_heap n1 o⟩, ⟨by rw [cell_of_heap n2]; rfl, fun o => frozen_of_heap n2 o⟩, ⟨by rw [cell_of_heap n3]; rfl, fun o => frozen_of_heap n3 o⟩, ⟨by rw [cell_of_heap n4]; rfl, fun o => frozen_of_heap n4 o⟩, set_cell n4 3 v3 rfl, b4.set (by simp) v3⟩
theorem cells4 {W : World} {A : Nat} {a b c d : Value} {t : TypeId} (n1 : W.heap[A]? = some (.cells #[a, b, c, d] t (0, 0))) : W.cell? ⟨A, 0, none⟩ = some a ∧ W.cell? ⟨A, 1, none⟩ = some b ∧ W.cell? ⟨A, 2, none⟩ = some c ∧ W.cell? ⟨A, 3, none⟩ = some d := ⟨by rw [cell_of_heap n1]; rfl, by rw [cell_of_heap n1]; rfl, by rw [cell_of_heap n1]; rfl, by rw [cell_of_heap n1]; rfl⟩
theorem cellsT {W : World} {A : Nat} {c : Array Value} {T T' : TypeId} {f : Nat × Nat} {d : Array Value} {f' : Nat × Nat} (h : W.heap[A]? = some (.cells c T f)) (h' : W.heap[A]? = some (.cells d T' f')) : T = T' := by
 rw [h] at h'
 injection h' with h'
 injection h' with _ h2 _
theorem Tw.turn {w W W' : World} {B : Nat} {x : Bl} {ps bs : Nat} {b : Bk} {e : En} {lb : Nat} {l : Lo} (h : Tw w W B x ps bs b e lb l) {A : Nat} (hf : Off [A] W W') (hA : w.heap.size ≤ A) {d : Array Value} (nA : W.heap[A]? = some (.cells d 46 (0, 0))) : Tw w W' B x ps bs b e lb l := by
 have o : ∀ k, k < W.heap.size → k ≠ A → W'.heap[k]? = W.heap[k]? := fun k hk hn => hf.block k hk (by simpa using hn)
 have hl := h.book.low
 have hne : ∀ {k : Nat} {c : Array Value} {T : TypeId} {f : Nat × Nat}, W.heap[k]? = some (.cells c T f) → T ≠ 46 → k ≠ A := fun hk hT e9 => hT (cellsT hk (e9 ▸ nA))
 have hnm : ∀ {k : Nat} {L : List Ent} {kt : TypeId}, MapL Tryz.prog kt W k L → k ≠ A := fun hm e9 => by
  have c0 : W.cell? ⟨A, 0, none⟩ = W.cell? ⟨A, 0, none⟩ := rfl
  obtain ⟨es, ck, hb, _⟩ := hm
  rw [e9, nA] at hb
  cases hb
 refine ⟨h.below.trans (hf.below h.below.size (by simpa using hA)), h.book.of_blocks fun k hk => o k (hl k hk).2 ?_, ?_, ?_, h.lbn⟩
 ·rcases hk with rfl | rfl | rfl | rfl | rfl | rfl | rfl
  ·exact hne h.book.blk (by decide)
  ·exact hnm h.book.G
  ·exact hnm h.book.U
  ·exact hnm h.book.L
  ·exact hnm h.book.H
  ·exact hne h.book.sblk (by decide)
  ·exact hnm h.book.S.map
 ·exact (o _ (Array.getElem?_eq_some_iff.1 h.ent).1 (hne h.ent (by decide))).trans h.ent
 ·exact (o _ (Array.getElem?_eq_some_iff.1 h.lot).1 (hne h.lot (by decide))).trans h.lot
theorem NewSt.other {w0 w1 w2 : World} {p' b' : Nat} {m : List Ln} (h : NewSt w0 w1 p' b' m) {A : Nat} (hf : Off [A] w1 w2) (hA : w0.heap.size ≤ A) {d : Array Value} (nA : w1.heap[A]? = some (.cells d 46 (0, 0))) : NewSt w0 w2 p' b' m := by
 have o : ∀ k, k < w1.heap.size → k ≠ A → w2.heap[k]? = w1.heap[k]? := fun k hk hn => hf.block k hk (by simpa using hn)
 have n1 : p' ≠ A := fun e9 => absurd (cellsT h.blk (e9 ▸ nA)) (by decide)
 have n2 : b' ≠ A := fun e9 => by
  obtain ⟨es, ck, hb, _⟩ := h.st.map
  rw [e9, nA] at hb
  cases hb
 have k1 := o p' h.st.lt.1 n1
 have k2 := o b' h.st.lt.2 n2
 exact ⟨h.st.of_blocks k1 k2, k1.trans h.blk, h.lp, h.lb, h.below.trans (hf.below h.below.size (by simpa using hA))⟩
theorem keyS_size {c : ByteArray} {kl : Lit} (h : keyOf Tryz.prog 9 (.string c) = some kl) : c.size ≤ maxLen := by
 rw [keyOf_string Tryz.underlying9] at h
 simp only [mapKey, Tryz.underlying9] at h
 by_cases hc : c.size ≤ maxLen
 ·exact hc
 ·simp [hc] at h
theorem turn_bound (w : World) (s : Nat → Addr) (B : Nat) (x : Bl) (b : Bk) (e : En) (h : IsBk w B x b) (hz : SzE e) (hs : Bs w s) (k i : Nat) (l : Lh) (g : Gs) (hl : b.2.1[k]? = some l) (hid : nameL l = e.2.2.1.1) (hg : b.1[i]? = some g) (hgn : nameG g = l.1.2.1) (he : entErr e = 0) (h1 : e.1 ≠ kGoods) (h2 : e.1 ≠ kLot) (hc : stkE e b.2.2 = 0) (hh : 0 ≤ heldN e.1 l.2 e.2.2.2.2.2) (ho : heldN e.1 l.2 e.2.2.2.2.2 ≤ ofL (stkL e b.2.2) e.2.2.1.1) (hu : okSu (addSu e.1 g.2 e.2.2.2.2.2) = false) :
  Calls Tryz.prog 50 #[.pointer (some ⟨x.p, 0, none⟩), agE e] w fun r w' => r = .returned (errP s (2)) ∧ IsBk w' B x b ∧ Off x.all w w' := by
 obtain ⟨ps, bs, h⟩ := h
 have hE := BlkE.new w e
 have hb1 : Below w.heap.size w (w.alloc (celE e)) := (Below.refl _ w).alloc (Nat.le_refl _) _
 obtain ⟨W, hW⟩ : ∃ W, w.alloc (celE e) = W := ⟨_, rfl⟩
 rw [hW] at hE hb1
 have hB1 := h.all hb1
 have hlm := List.mem_of_getElem? hl
 have hgm := List.mem_of_getElem? hg
 have hq := hB1.askL_yes hz.li hlm hid
 obtain ⟨V1, V2, V3, V4, V5, e1, e2, e3, e4, e5, ⟨k1, k2, k3, k4, k5⟩, ⟨k6, k7⟩, ⟨k8, k9⟩, ⟨k10, k11⟩, n5, kb1, kb5⟩ := boxed4 W (.string ⟨#[]⟩) (.string ⟨#[]⟩) (.int .i64 0) (.int .i64 0) (.string l.1.1) (.string l.1.2.1) (.int .i64 l.1.2.2.1) (.int .i64 l.1.2.2.2) 26
 have hbV : Below w.heap.size w V5 := hb1.trans (kb5.mono hb1.size)
 have hT : Tw w V5.drew B x ps bs b e W.heap.size l.1 := Tw.drew ⟨hbV, h.all hbV, hE.below kb5, n5, hb1.size⟩
 have hC1 := stockAfter_any V5.drew s ps bs b.2.2 e hT.book.S hz (hs.below hT.below).five he h1 h2
 have hnum := piece_num he h1 h2
 have hsum := h.ok.wf.sums g hgm
 have hheld := h.ok.wf.held l hlm
 have hheld2 : l.2 ≤ 1099511627776 := Int.le_trans hheld.2 (h.ok.wf.st.most _)
 rw [hc, errP_zero] at hC1
 have HH : Hid (∀ W, Calls Tryz.prog 92 #[.int .i64 l.2, agE e] W fun r w' => r = .returned (.int .i64 (heldN e.1 l.2 e.2.2.2.2.2)) ∧ Below W.heap.size W w') := fun W => heldAfter_any l.2 e W ⟨hheld.1, hheld2⟩ hnum
 have HLH : Hid (∀ W, Tw w W B x ps bs b e W.heap.size l.1 ∨ BkAt W B x ps bs b → (Instr.lookup 94 (.map (some x.h)) (.string e.2.2.1.1) false).run Tryz.prog W = .ok (.int .i64 l.2) W) := fun W hW => (hW.elim Tw.book id).lookH hz.li hlm hid
 have HO : Hid (∀ W p' b', IsStock W p' b' (stkL e b.2.2) → Calls Tryz.prog 22 #[.pointer (some ⟨p', 0, none⟩), .string e.2.2.1.1] W fun r w' => r = .returned (.int .i64 (ofL (stkL e b.2.2) e.2.2.1.1)) ∧ Below W.heap.size W w') := fun W p' b' hi => of_any e.2.2.1.1 W p' b' (stkL e b.2.2) hi
 have hcz : l.1.2.1.size ≤ maxLen := by
  obtain ⟨kl, hkl⟩ := h.G.keys _ (List.mem_map.2 ⟨g, hgm, rfl⟩)
  have hss : g.1.1.size ≤ maxLen := by
   simp only [entG] at hkl
   exact keyS_size hkl
  rw [← hgn]; exact hss
 have HU : Hid (∀ W, Calls Tryz.prog 93 #[agU g.2, agE e] W fun r w' => r = .returned (agU (addSu e.1 g.2 e.2.2.2.2.2)) ∧ Below W.heap.size W w') := fun W => sumsAfter_any g.2 e W hsum hnum
 have HLU : Hid (∀ W, BkAt W B x ps bs b → (Instr.lookup 92 (.map (some x.u)) (.string l.1.2.1) false).run Tryz.prog W = .ok (.agg #[.int .i64 g.2.1, .int .i64 g.2.2.1, .int .i64 g.2.2.2.1, .int .i64 g.2.2.2.2]) W) := fun W hW => hW.lookU hcz hgm hgn
 have HWl : Hid (∀ W, Calls Tryz.prog 94 #[agU (addSu e.1 g.2 e.2.2.2.2.2)] W fun r w' => r = .returned (.bool false) ∧ Below W.heap.size W w') := fun W => hu ▸ well_any _ W
 have HSs : Hid (∀ W, Below w.heap.size w W → Bs W s) := fun W hb => hs.below hb
 have c3 := hE.at.c3
 obtain ⟨_, _, p2, _⟩ := hB1.cells
 have p4 := hT.book.cells.2.2.2.2.1
 obtain ⟨t0, t1, t2, t3, t4, t5, t6, t7, t8, t9, t10, t11, t12, t13⟩ := hT.ent.at; (try simp only at t0 t1 t2 t3 t4 t5 t6 t7 t8 t9 t10 t11 t12 t13)
 have HT : Hid (Tw _ _ _ _ _ _ _ _ _ _) := hT
 have HC1 : Hid (Calls Tryz.prog 91 _ _ _) := hC1
 have HV : Hid (w.heap.size ≤ V5.drew.heap.size) := hbV.size
 generalize hHN : heldN e.1 l.2 e.2.2.2.2.2 = hd at *
 generalize hON : ofL (stkL e b.2.2) e.2.2.1.1 = od at *
 clear kb1 kb5 hbV hb1 hB1 hE h hs hz hT hC1 hnum hsum hheld hheld2 hlm hgm hl hg hid hgn he h1 h2 hc n5 hcz
 obtain ⟨ak, ⟨agc, agp⟩, ⟨ali, alc, alu, alk⟩, ⟨afz, afr, afb⟩, ⟨atz, atr, atb⟩, an⟩ := e
 obtain ⟨⟨lli, llc, llu, llk⟩, lh⟩ := l
 generalize hSN : addSu ak g.2 an = su at *
 obtain ⟨⟨ggc, ggp⟩, g1, g2, g3, g4⟩ := g
 obtain ⟨s1, s2, s3, s4⟩ := su
 unfold agE celE agU at *
 simp only at *
 go_enter Tryz.func50, Tryz.ntmps50
 go_wp2_with (at_lookup; refine wpL_ask rfl _ _ 93 rfl x.l _ _ rfl rfl hq ?_)
 go_region_held3 (fun w' => w'.cell? ⟨x.p, 4, none⟩ = some (.pointer (some ⟨ps, 0, none⟩)) ∧ w'.cell? ⟨w.heap.size, 0, none⟩ = some (.string ak) ∧ w'.cell? ⟨w.heap.size, 1, none⟩ = some (.string agc) ∧ w'.cell? ⟨w.heap.size, 2, none⟩ = some (.int .i64 agp) ∧ w'.cell? ⟨w.heap.size, 3, none⟩ = some (.string ali) ∧ w'.cell? ⟨w.heap.size, 4, none⟩ = some (.string alc) ∧ w'.cell? ⟨w.heap.size, 5, none⟩ = some (.int .i64 alu) ∧ w'.cell? ⟨w.heap.size, 6, none⟩ = some (.int .i64 alk) ∧ w'.cell? ⟨w.heap.size, 7, none⟩ = some (.string afz) ∧ w'.cell? ⟨w.heap.size, 8, none⟩ = some (.int .i64 afr) ∧ w'.cell? ⟨w.heap.size, 9, none⟩ = some (.int .i64 afb) ∧ w'.cell? ⟨w.heap.size, 10, none⟩ = some (.string atz) ∧ w'.cell? ⟨w.heap.size, 11, none⟩ = some (.int .i64 atr) ∧ w'.cell? ⟨w.heap.size, 12, none⟩ = some (.int .i64 atb) ∧ w'.cell? ⟨w.heap.size, 13, none⟩ = some (.int .i64 an)) (go_keep) (first | (go_at_call 91; refine HC1.out.mono ?_; rintro r w2 ⟨p', b', rfl, hns⟩; have h2 := HT.out.go hns.below; have p4b := h2.book.cells.2.2.2.2.1; obtain ⟨v0, v1, v2, v3, v4, v5, v6, v7, v8, v9, v10, v11, v12, v13⟩ := h2.ent.at; (try simp only at v0 v1 v2 v3 v4 v5 v6 v7 v8 v9 v10 v11 v12 v13); have HN2 : Hid (NewSt _ _ _ _ _) := hns; have HT2 : Hid (Tw _ _ _ _ _ _ _ _ _ _) := h2; clear hns h2))
 go_wp2
 have h2d := HT2.out.drew
 have p3 := h2d.book.cells.2.2.2.1
 have lh2 := HLH.out _ (Or.inr h2d.book)
 obtain ⟨u0, u1, u2, u3, u4, u5, u6, u7, u8, u9, u10, u11, u12, u13⟩ := h2d.ent.at; (try simp only at u0 u1 u2 u3 u4 u5 u6 u7 u8 u9 u10 u11 u12 u13)
 have H2d : Hid (Tw _ _ _ _ _ _ _ _ _ _) := h2d
 clear h2d
 go_region_held3 (fun w' => w'.cell? ⟨x.p, 3, none⟩ = some (.map (some x.h)) ∧ (Instr.lookup 94 (.map (some x.h)) (.string ali) false).run Tryz.prog w' = .ok (.int .i64 lh) w' ∧ w'.cell? ⟨w.heap.size, 0, none⟩ = some (.string ak) ∧ w'.cell? ⟨w.heap.size, 1, none⟩ = some (.string agc) ∧ w'.cell? ⟨w.heap.size, 2, none⟩ = some (.int .i64 agp) ∧ w'.cell? ⟨w.heap.size, 3, none⟩ = some (.string ali) ∧ w'.cell? ⟨w.heap.size, 4, none⟩ = some (.string alc) ∧ w'.cell? ⟨w.heap.size, 5, none⟩ = some (.int .i64 alu) ∧ w'.cell? ⟨w.heap.size, 6, none⟩ = some (.int .i64 alk) ∧ w'.cell? ⟨w.heap.size, 7, none⟩ = some (.string afz) ∧ w'.cell? ⟨w.heap.size, 8, none⟩ = some (.int .i64 afr) ∧ w'.cell? ⟨w.heap.size, 9, none⟩ = some (.int .i64 afb) ∧ w'.cell? ⟨w.heap.size, 10, none⟩ = some (.string atz) ∧ w'.cell? ⟨w.heap.size, 11, none⟩ = some (.int .i64 atr) ∧ w'.cell? ⟨w.heap.size, 12, none⟩ = some (.int .i64 atb) ∧ w'.cell? ⟨w.heap.size, 13, none⟩ = some (.int .i64 an)) (go_keep) (first | (go_at_call 92; refine (HH.out _).mono ?_; rintro r w3 ⟨rfl, hb3⟩; have HN3 : Hid (NewSt _ _ _ _ _) := (HN2.out.later (Below.refl _ _).drew).later hb3; have h3 := H2d.out.go hb3; have p3b := h3.book.cells.2.2.2.1; have lh3 := HLH.out _ (Or.inr h3.book); obtain ⟨y0, y1, y2, y3, y4, y5, y6, y7, y8, y9, y10, y11, y12, y13⟩ := h3.ent.at; (try simp only at y0 y1 y2 y3 y4 y5 y6 y7 y8 y9 y10 y11 y12 y13); have HT3 : Hid (Tw _ _ _ _ _ _ _ _ _ _) := h3; clear hb3 h3))
 go_wp2_with (go_at_call 22; refine (HO.out _ _ _ HN3.out.st).mono ?_; rintro r w4 ⟨rfl, hb4⟩; have hs4 := (HSs.out _ (HT3.out.go hb4).below).five.short; have HN4 : Hid (NewSt _ _ _ _ _) := HN3.out.later hb4; have HT4 : Hid (Tw _ _ _ _ _ _ _ _ _ _) := HT3.out.go hb4; clear hb4)
 have h4d := HT4.out.drew
 have p1 := h4d.book.cells.2.1
 have lc4 := h4d.code
 have lu4 := HLU.out _ h4d.book
 (try simp only at lc4)
 obtain ⟨z0, z1, z2, z3, z4, z5, z6, z7, z8, z9, z10, z11, z12, z13⟩ := h4d.ent.at; (try simp only at z0 z1 z2 z3 z4 z5 z6 z7 z8 z9 z10 z11 z12 z13)
 have hbA : Below w4.drew.heap.size w4.drew (w4.drew.alloc (.cells #[.int .i64 0, .int .i64 0, .int .i64 0, .int .i64 0] 46)) := (Below.refl _ _).alloc (Nat.le_refl _) _
 have nA := heap_alloc_new w4.drew (.cells #[.int .i64 0, .int .i64 0, .int .i64 0, .int .i64 0] 46)
 obtain ⟨A1, eA⟩ : ∃ A1, w4.drew.alloc (.cells #[.int .i64 0, .int .i64 0, .int .i64 0, .int .i64 0] 46) = A1 := ⟨_, rfl⟩
 rw [eA] at hbA nA
 have hA := h4d.go hbA
 have p1A := hA.book.cells.2.1
 have lcA := hA.code
 have luA := HLU.out _ hA.book
 (try simp only at lcA)
 obtain ⟨q0, q1, q2, q3, q4, q5, q6, q7, q8, q9, q10, q11, q12, q13⟩ := hA.ent.at; (try simp only at q0 q1 q2 q3 q4 q5 q6 q7 q8 q9 q10 q11 q12 q13)
 have H4d : Hid (Tw _ _ _ _ _ _ _ _ _ _) := h4d
 have HA : Hid (Tw _ _ _ _ _ _ _ _ _ _) := hA
 have HnA : Hid (A1.heap[w4.heap.size]? = some (.cells #[.int .i64 0, .int .i64 0, .int .i64 0, .int .i64 0] 46 (0, 0))) := nA
 have HNd : Hid (NewSt _ w4.drew _ _ _) := HN4.out.later (Below.refl _ _).drew
 have HNA : Hid (NewSt _ A1 _ _ _) := (HN4.out.later (Below.refl _ _).drew).later hbA
 have HUA : Hid (Calls Tryz.prog 93 _ A1 _) := HU.out A1
 have HUB : Hid (Calls Tryz.prog 93 _ w4.drew _) := HU.out w4.drew
 have HWn : Hid (w.heap.size ≤ w4.heap.size) := h4d.below.size
 have HWm : Hid (V5.drew.heap.size ≤ w4.heap.size) := HN4.out.below.size
 clear h4d hA hbA nA
 go_region_held3 (fun w' => w'.cell? ⟨x.p, 1, none⟩ = some (.map (some x.u)) ∧ w'.cell? ⟨W.heap.size, 1, none⟩ = some (.string llc) ∧ (Instr.lookup 92 (.map (some x.u)) (.string llc) false).run Tryz.prog w' = .ok (.agg #[.int .i64 g1, .int .i64 g2, .int .i64 g3, .int .i64 g4]) w' ∧ w'.cell? ⟨w.heap.size, 0, none⟩ = some (.string ak) ∧ w'.cell? ⟨w.heap.size, 1, none⟩ = some (.string agc) ∧ w'.cell? ⟨w.heap.size, 2, none⟩ = some (.int .i64 agp) ∧ w'.cell? ⟨w.heap.size, 3, none⟩ = some (.string ali) ∧ w'.cell? ⟨w.heap.size, 4, none⟩ = some (.string alc) ∧ w'.cell? ⟨w.heap.size, 5, none⟩ = some (.int .i64 alu) ∧ w'.cell? ⟨w.heap.size, 6, none⟩ = some (.int .i64 alk) ∧ w'.cell? ⟨w.heap.size, 7, none⟩ = some (.string afz) ∧ w'.cell? ⟨w.heap.size, 8, none⟩ = some (.int .i64 afr) ∧ w'.cell? ⟨w.heap.size, 9, none⟩ = some (.int .i64 afb) ∧ w'.cell? ⟨w.heap.size, 10, none⟩ = some (.string atz) ∧ w'.cell? ⟨w.heap.size, 11, none⟩ = some (.int .i64 atr) ∧ w'.cell? ⟨w.heap.size, 12, none⟩ = some (.int .i64 atb) ∧ w'.cell? ⟨w.heap.size, 13, none⟩ = some (.int .i64 an)) (go_keep) (first | (go_at_call 93; refine HUA.out.mono ?_; rintro r w5 ⟨rfl, hb5⟩; have nA5 := (hb5.block _ (Array.getElem?_eq_some_iff.1 HnA.out).1).trans HnA.out; obtain ⟨T2, T3, T4, T5, f2, f3, f4, f5, ⟨j1, j2, j3, j4, j5⟩, ⟨j6, j7⟩, ⟨j8, j9⟩, ⟨j10, j11⟩, n6, fo⟩ := sets4 nA5 (.int .i64 s1) (.int .i64 s2) (.int .i64 s3) (.int .i64 s4); have h5 := HA.out.go hb5; have h55 := h5.turn fo HWn.out nA5; have fap := h5.book.cells.2.1; have fac := h5.code; (try simp only at fac); have fal := HLU.out _ h5.book; obtain ⟨fa0, fa1, fa2, fa3, fa4, fa5, fa6, fa7, fa8, fa9, fa10, fa11, fa12, fa13⟩ := h5.ent.at; (try simp only at fa0 fa1 fa2 fa3 fa4 fa5 fa6 fa7 fa8 fa9 fa10 fa11 fa12 fa13); have fbp := h55.book.cells.2.1; have fbc := h55.code; (try simp only at fbc); have fbl := HLU.out _ h55.book; obtain ⟨fb0, fb1, fb2, fb3, fb4, fb5, fb6, fb7, fb8, fb9, fb10, fb11, fb12, fb13⟩ := h55.ent.at; (try simp only at fb0 fb1 fb2 fb3 fb4 fb5 fb6 fb7 fb8 fb9 fb10 fb11 fb12 fb13); have HT5 : Hid (Tw _ T5 _ _ _ _ _ _ _ _) := h55; have HN5 : Hid (NewSt _ T5 _ _ _) := (HNA.out.later hb5).other fo HWm.out nA5; have H6 : Hid (T5.heap[w4.heap.size]? = _) := n6; clear fo n6 hb5 nA5 h5 h55) | (go_at_call 93; refine HUB.out.mono ?_; rintro r w5 ⟨rfl, hb5⟩; obtain ⟨T1, T2, T3, T4, T5, f1, f2, f3, f4, f5, ⟨j1, j2, j3, j4, j5⟩, ⟨j6, j7⟩, ⟨j8, j9⟩, ⟨j10, j11⟩, n6, jb1, jb5⟩ := boxed4 w5 (.int .i64 0) (.int .i64 0) (.int .i64 0) (.int .i64 0) (.int .i64 s1) (.int .i64 s2) (.int .i64 s3) (.int .i64 s4) 46; have h5 := H4d.out.go hb5; have h51 := h5.go jb1; have h55 := h5.go jb5; have fap := h5.book.cells.2.1; have fac := h5.code; (try simp only at fac); have fal := HLU.out _ h5.book; obtain ⟨fa0, fa1, fa2, fa3, fa4, fa5, fa6, fa7, fa8, fa9, fa10, fa11, fa12, fa13⟩ := h5.ent.at; (try simp only at fa0 fa1 fa2 fa3 fa4 fa5 fa6 fa7 fa8 fa9 fa10 fa11 fa12 fa13); have fbp := h51.book.cells.2.1; have fbc := h51.code; (try simp only at fbc); have fbl := HLU.out _ h51.book; obtain ⟨fb0, fb1, fb2, fb3, fb4, fb5, fb6, fb7, fb8, fb9, fb10, fb11, fb12, fb13⟩ := h51.ent.at; (try simp only at fb0 fb1 fb2 fb3 fb4 fb5 fb6 fb7 fb8 fb9 fb10 fb11 fb12 fb13); have fcp := h55.book.cells.2.1; have fcc := h55.code; (try simp only at fcc); have fcl := HLU.out _ h55.book; obtain ⟨fc0, fc1, fc2, fc3, fc4, fc5, fc6, fc7, fc8, fc9, fc10, fc11, fc12, fc13⟩ := h55.ent.at; (try simp only at fc0 fc1 fc2 fc3 fc4 fc5 fc6 fc7 fc8 fc9 fc10 fc11 fc12 fc13); have HT5 : Hid (Tw _ T5 _ _ _ _ _ _ _ _) := h55; have HN5 : Hid (NewSt _ T5 _ _ _) := (HNd.out.later hb5).later jb5; have H6 : Hid (T5.heap[w5.heap.size]? = _) := n6; clear jb1 jb5 n6 hb5 h5 h51 h55))
 all_goals
  obtain ⟨m0, m1, m2, m3⟩ := cells4 H6.out
  go_wp2_with (go_at_call 94; refine (HWl.out _).mono ?_; rintro r w6 ⟨rfl, hb6⟩; have hs6 := (HSs.out _ (HT5.out.go hb6).below).five.two.bound; have HT6 : Hid (Tw _ _ _ _ _ _ _ _ _ _) := HT5.out.go hb6; clear hb6)
  go_ret
  exact ⟨rfl, HT6.out.fin_⟩
theorem turn_ok (w : World) (s : Nat → Addr) (B : Nat) (x : Bl) (b : Bk) (e : En) (h : IsBk w B x b) (hz : SzE e) (hs : Bs w s) (k i : Nat) (l : Lh) (g : Gs) (hl : b.2.1[k]? = some l) (hid : nameL l = e.2.2.1.1) (hg : b.1[i]? = some g) (hgn : nameG g = l.1.2.1) (he : entErr e = 0) (h1 : e.1 ≠ kGoods) (h2 : e.1 ≠ kLot) (hc : stkE e b.2.2 = 0) (hh : 0 ≤ heldN e.1 l.2 e.2.2.2.2.2) (ho : heldN e.1 l.2 e.2.2.2.2.2 ≤ ofL (stkL e b.2.2) e.2.2.1.1) (hu : okSu (addSu e.1 g.2 e.2.2.2.2.2) = true) :
  Calls Tryz.prog 50 #[.pointer (some ⟨x.p, 0, none⟩), agE e] w fun r w' => r = .returned (errP s (0)) ∧ IsBk w' B x (pieceB b e k l i g) ∧ Off x.all w w' := by
 obtain ⟨ps, bs, h⟩ := h
 have hE := BlkE.new w e
 have hb1 : Below w.heap.size w (w.alloc (celE e)) := (Below.refl _ w).alloc (Nat.le_refl _) _
 obtain ⟨W, hW⟩ : ∃ W, w.alloc (celE e) = W := ⟨_, rfl⟩
 rw [hW] at hE hb1
 have hB1 := h.all hb1
 have hlm := List.mem_of_getElem? hl
 have hgm := List.mem_of_getElem? hg
 have hq := hB1.askL_yes hz.li hlm hid
 obtain ⟨V1, V2, V3, V4, V5, e1, e2, e3, e4, e5, ⟨k1, k2, k3, k4, k5⟩, ⟨k6, k7⟩, ⟨k8, k9⟩, ⟨k10, k11⟩, n5, kb1, kb5⟩ := boxed4 W (.string ⟨#[]⟩) (.string ⟨#[]⟩) (.int .i64 0) (.int .i64 0) (.string l.1.1) (.string l.1.2.1) (.int .i64 l.1.2.2.1) (.int .i64 l.1.2.2.2) 26
 have hbV : Below w.heap.size w V5 := hb1.trans (kb5.mono hb1.size)
 have hT : Tw w V5.drew B x ps bs b e W.heap.size l.1 := Tw.drew ⟨hbV, h.all hbV, hE.below kb5, n5, hb1.size⟩
 have hC1 := stockAfter_any V5.drew s ps bs b.2.2 e hT.book.S hz (hs.below hT.below).five he h1 h2
 have hnum := piece_num he h1 h2
 have hsum := h.ok.wf.sums g hgm
 have hheld := h.ok.wf.held l hlm
 have hheld2 : l.2 ≤ 1099511627776 := Int.le_trans hheld.2 (h.ok.wf.st.most _)
 rw [hc, errP_zero] at hC1
 have HH : Hid (∀ W, Calls Tryz.prog 92 #[.int .i64 l.2, agE e] W fun r w' => r = .returned (.int .i64 (heldN e.1 l.2 e.2.2.2.2.2)) ∧ Below W.heap.size W w') := fun W => heldAfter_any l.2 e W ⟨hheld.1, hheld2⟩ hnum
 have HLH : Hid (∀ W, Tw w W B x ps bs b e W.heap.size l.1 ∨ BkAt W B x ps bs b → (Instr.lookup 94 (.map (some x.h)) (.string e.2.2.1.1) false).run Tryz.prog W = .ok (.int .i64 l.2) W) := fun W hW => (hW.elim Tw.book id).lookH hz.li hlm hid
 have HO : Hid (∀ W p' b', IsStock W p' b' (stkL e b.2.2) → Calls Tryz.prog 22 #[.pointer (some ⟨p', 0, none⟩), .string e.2.2.1.1] W fun r w' => r = .returned (.int .i64 (ofL (stkL e b.2.2) e.2.2.1.1)) ∧ Below W.heap.size W w') := fun W p' b' hi => of_any e.2.2.1.1 W p' b' (stkL e b.2.2) hi
 have hcz : l.1.2.1.size ≤ maxLen := by
  obtain ⟨kl, hkl⟩ := h.G.keys _ (List.mem_map.2 ⟨g, hgm, rfl⟩)
  have hss : g.1.1.size ≤ maxLen := by
   simp only [entG] at hkl
   exact keyS_size hkl
  rw [← hgn]; exact hss
 have HU : Hid (∀ W, Calls Tryz.prog 93 #[agU g.2, agE e] W fun r w' => r = .returned (agU (addSu e.1 g.2 e.2.2.2.2.2)) ∧ Below W.heap.size W w') := fun W => sumsAfter_any g.2 e W hsum hnum
 have HLU : Hid (∀ W, BkAt W B x ps bs b → (Instr.lookup 92 (.map (some x.u)) (.string l.1.2.1) false).run Tryz.prog W = .ok (.agg #[.int .i64 g.2.1, .int .i64 g.2.2.1, .int .i64 g.2.2.2.1, .int .i64 g.2.2.2.2]) W) := fun W hW => hW.lookU hcz hgm hgn
 have HWl : Hid (∀ W, Calls Tryz.prog 94 #[agU (addSu e.1 g.2 e.2.2.2.2.2)] W fun r w' => r = .returned (.bool true) ∧ Below W.heap.size W w') := fun W => hu ▸ well_any _ W
 have HL : Hid (∀ W w0 p' b', Tw w W B x ps bs b e w0 l.1 → ∀ w9, NewSt w9 W p' b' (stkL e b.2.2) → w.heap.size ≤ w9.heap.size → _) := fun W w0 p' b' ht w9 hn hw => ht.last h hn hw hz hl hid hg hgn hcz (by have := hnum.1; omega) (by unfold pieceE; rw [if_pos hc, if_neg (by omega), if_pos hu])
 have HSs : Hid (∀ W, Below w.heap.size w W → Bs W s) := fun W hb => hs.below hb
 have c3 := hE.at.c3
 obtain ⟨_, _, p2, _⟩ := hB1.cells
 have p4 := hT.book.cells.2.2.2.2.1
 obtain ⟨t0, t1, t2, t3, t4, t5, t6, t7, t8, t9, t10, t11, t12, t13⟩ := hT.ent.at; (try simp only at t0 t1 t2 t3 t4 t5 t6 t7 t8 t9 t10 t11 t12 t13)
 have HT : Hid (Tw _ _ _ _ _ _ _ _ _ _) := hT
 have HC1 : Hid (Calls Tryz.prog 91 _ _ _) := hC1
 have HV : Hid (w.heap.size ≤ V5.drew.heap.size) := hbV.size
 generalize hHN : heldN e.1 l.2 e.2.2.2.2.2 = hd at *
 generalize hON : ofL (stkL e b.2.2) e.2.2.1.1 = od at *
 clear kb1 kb5 hbV hb1 hB1 hE h hs hz hT hC1 hnum hsum hheld hheld2 hlm hgm hl hg hid hgn he h1 h2 hc n5 hcz
 obtain ⟨ak, ⟨agc, agp⟩, ⟨ali, alc, alu, alk⟩, ⟨afz, afr, afb⟩, ⟨atz, atr, atb⟩, an⟩ := e
 obtain ⟨⟨lli, llc, llu, llk⟩, lh⟩ := l
 generalize hSN : addSu ak g.2 an = su at *
 obtain ⟨⟨ggc, ggp⟩, g1, g2, g3, g4⟩ := g
 obtain ⟨s1, s2, s3, s4⟩ := su
 unfold agE celE agU at *
 simp only at *
 go_enter Tryz.func50, Tryz.ntmps50
 go_wp2_with (at_lookup; refine wpL_ask rfl _ _ 93 rfl x.l _ _ rfl rfl hq ?_)
 go_region_held3 (fun w' => w'.cell? ⟨x.p, 4, none⟩ = some (.pointer (some ⟨ps, 0, none⟩)) ∧ w'.cell? ⟨w.heap.size, 0, none⟩ = some (.string ak) ∧ w'.cell? ⟨w.heap.size, 1, none⟩ = some (.string agc) ∧ w'.cell? ⟨w.heap.size, 2, none⟩ = some (.int .i64 agp) ∧ w'.cell? ⟨w.heap.size, 3, none⟩ = some (.string ali) ∧ w'.cell? ⟨w.heap.size, 4, none⟩ = some (.string alc) ∧ w'.cell? ⟨w.heap.size, 5, none⟩ = some (.int .i64 alu) ∧ w'.cell? ⟨w.heap.size, 6, none⟩ = some (.int .i64 alk) ∧ w'.cell? ⟨w.heap.size, 7, none⟩ = some (.string afz) ∧ w'.cell? ⟨w.heap.size, 8, none⟩ = some (.int .i64 afr) ∧ w'.cell? ⟨w.heap.size, 9, none⟩ = some (.int .i64 afb) ∧ w'.cell? ⟨w.heap.size, 10, none⟩ = some (.string atz) ∧ w'.cell? ⟨w.heap.size, 11, none⟩ = some (.int .i64 atr) ∧ w'.cell? ⟨w.heap.size, 12, none⟩ = some (.int .i64 atb) ∧ w'.cell? ⟨w.heap.size, 13, none⟩ = some (.int .i64 an)) (go_keep) (first | (go_at_call 91; refine HC1.out.mono ?_; rintro r w2 ⟨p', b', rfl, hns⟩; have h2 := HT.out.go hns.below; have p4b := h2.book.cells.2.2.2.2.1; obtain ⟨v0, v1, v2, v3, v4, v5, v6, v7, v8, v9, v10, v11, v12, v13⟩ := h2.ent.at; (try simp only at v0 v1 v2 v3 v4 v5 v6 v7 v8 v9 v10 v11 v12 v13); have HN2 : Hid (NewSt _ _ _ _ _) := hns; have HT2 : Hid (Tw _ _ _ _ _ _ _ _ _ _) := h2; clear hns h2))
 go_wp2
 have h2d := HT2.out.drew
 have p3 := h2d.book.cells.2.2.2.1
 have lh2 := HLH.out _ (Or.inr h2d.book)
 obtain ⟨u0, u1, u2, u3, u4, u5, u6, u7, u8, u9, u10, u11, u12, u13⟩ := h2d.ent.at; (try simp only at u0 u1 u2 u3 u4 u5 u6 u7 u8 u9 u10 u11 u12 u13)
 have H2d : Hid (Tw _ _ _ _ _ _ _ _ _ _) := h2d
 clear h2d
 go_region_held3 (fun w' => w'.cell? ⟨x.p, 3, none⟩ = some (.map (some x.h)) ∧ (Instr.lookup 94 (.map (some x.h)) (.string ali) false).run Tryz.prog w' = .ok (.int .i64 lh) w' ∧ w'.cell? ⟨w.heap.size, 0, none⟩ = some (.string ak) ∧ w'.cell? ⟨w.heap.size, 1, none⟩ = some (.string agc) ∧ w'.cell? ⟨w.heap.size, 2, none⟩ = some (.int .i64 agp) ∧ w'.cell? ⟨w.heap.size, 3, none⟩ = some (.string ali) ∧ w'.cell? ⟨w.heap.size, 4, none⟩ = some (.string alc) ∧ w'.cell? ⟨w.heap.size, 5, none⟩ = some (.int .i64 alu) ∧ w'.cell? ⟨w.heap.size, 6, none⟩ = some (.int .i64 alk) ∧ w'.cell? ⟨w.heap.size, 7, none⟩ = some (.string afz) ∧ w'.cell? ⟨w.heap.size, 8, none⟩ = some (.int .i64 afr) ∧ w'.cell? ⟨w.heap.size, 9, none⟩ = some (.int .i64 afb) ∧ w'.cell? ⟨w.heap.size, 10, none⟩ = some (.string atz) ∧ w'.cell? ⟨w.heap.size, 11, none⟩ = some (.int .i64 atr) ∧ w'.cell? ⟨w.heap.size, 12, none⟩ = some (.int .i64 atb) ∧ w'.cell? ⟨w.heap.size, 13, none⟩ = some (.int .i64 an)) (go_keep) (first | (go_at_call 92; refine (HH.out _).mono ?_; rintro r w3 ⟨rfl, hb3⟩; have HN3 : Hid (NewSt _ _ _ _ _) := (HN2.out.later (Below.refl _ _).drew).later hb3; have h3 := H2d.out.go hb3; have p3b := h3.book.cells.2.2.2.1; have lh3 := HLH.out _ (Or.inr h3.book); obtain ⟨y0, y1, y2, y3, y4, y5, y6, y7, y8, y9, y10, y11, y12, y13⟩ := h3.ent.at; (try simp only at y0 y1 y2 y3 y4 y5 y6 y7 y8 y9 y10 y11 y12 y13); have HT3 : Hid (Tw _ _ _ _ _ _ _ _ _ _) := h3; clear hb3 h3))
 go_wp2_with (go_at_call 22; refine (HO.out _ _ _ HN3.out.st).mono ?_; rintro r w4 ⟨rfl, hb4⟩; have hs4 := (HSs.out _ (HT3.out.go hb4).below).five.short; have HN4 : Hid (NewSt _ _ _ _ _) := HN3.out.later hb4; have HT4 : Hid (Tw _ _ _ _ _ _ _ _ _ _) := HT3.out.go hb4; clear hb4)
 have h4d := HT4.out.drew
 have p1 := h4d.book.cells.2.1
 have lc4 := h4d.code
 have lu4 := HLU.out _ h4d.book
 (try simp only at lc4)
 obtain ⟨z0, z1, z2, z3, z4, z5, z6, z7, z8, z9, z10, z11, z12, z13⟩ := h4d.ent.at; (try simp only at z0 z1 z2 z3 z4 z5 z6 z7 z8 z9 z10 z11 z12 z13)
 have hbA : Below w4.drew.heap.size w4.drew (w4.drew.alloc (.cells #[.int .i64 0, .int .i64 0, .int .i64 0, .int .i64 0] 46)) := (Below.refl _ _).alloc (Nat.le_refl _) _
 have nA := heap_alloc_new w4.drew (.cells #[.int .i64 0, .int .i64 0, .int .i64 0, .int .i64 0] 46)
 obtain ⟨A1, eA⟩ : ∃ A1, w4.drew.alloc (.cells #[.int .i64 0, .int .i64 0, .int .i64 0, .int .i64 0] 46) = A1 := ⟨_, rfl⟩
 rw [eA] at hbA nA
 have hA := h4d.go hbA
 have p1A := hA.book.cells.2.1
 have lcA := hA.code
 have luA := HLU.out _ hA.book
 (try simp only at lcA)
 obtain ⟨q0, q1, q2, q3, q4, q5, q6, q7, q8, q9, q10, q11, q12, q13⟩ := hA.ent.at; (try simp only at q0 q1 q2 q3 q4 q5 q6 q7 q8 q9 q10 q11 q12 q13)
 have H4d : Hid (Tw _ _ _ _ _ _ _ _ _ _) := h4d
 have HA : Hid (Tw _ _ _ _ _ _ _ _ _ _) := hA
 have HnA : Hid (A1.heap[w4.heap.size]? = some (.cells #[.int .i64 0, .int .i64 0, .int .i64 0, .int .i64 0] 46 (0, 0))) := nA
 have HNd : Hid (NewSt _ w4.drew _ _ _) := HN4.out.later (Below.refl _ _).drew
 have HNA : Hid (NewSt _ A1 _ _ _) := (HN4.out.later (Below.refl _ _).drew).later hbA
 have HUA : Hid (Calls Tryz.prog 93 _ A1 _) := HU.out A1
 have HUB : Hid (Calls Tryz.prog 93 _ w4.drew _) := HU.out w4.drew
 have HWn : Hid (w.heap.size ≤ w4.heap.size) := h4d.below.size
 have HWm : Hid (V5.drew.heap.size ≤ w4.heap.size) := HN4.out.below.size
 clear h4d hA hbA nA
 go_region_held3 (fun w' => w'.cell? ⟨x.p, 1, none⟩ = some (.map (some x.u)) ∧ w'.cell? ⟨W.heap.size, 1, none⟩ = some (.string llc) ∧ (Instr.lookup 92 (.map (some x.u)) (.string llc) false).run Tryz.prog w' = .ok (.agg #[.int .i64 g1, .int .i64 g2, .int .i64 g3, .int .i64 g4]) w' ∧ w'.cell? ⟨w.heap.size, 0, none⟩ = some (.string ak) ∧ w'.cell? ⟨w.heap.size, 1, none⟩ = some (.string agc) ∧ w'.cell? ⟨w.heap.size, 2, none⟩ = some (.int .i64 agp) ∧ w'.cell? ⟨w.heap.size, 3, none⟩ = some (.string ali) ∧ w'.cell? ⟨w.heap.size, 4, none⟩ = some (.string alc) ∧ w'.cell? ⟨w.heap.size, 5, none⟩ = some (.int .i64 alu) ∧ w'.cell? ⟨w.heap.size, 6, none⟩ = some (.int .i64 alk) ∧ w'.cell? ⟨w.heap.size, 7, none⟩ = some (.string afz) ∧ w'.cell? ⟨w.heap.size, 8, none⟩ = some (.int .i64 afr) ∧ w'.cell? ⟨w.heap.size, 9, none⟩ = some (.int .i64 afb) ∧ w'.cell? ⟨w.heap.size, 10, none⟩ = some (.string atz) ∧ w'.cell? ⟨w.heap.size, 11, none⟩ = some (.int .i64 atr) ∧ w'.cell? ⟨w.heap.size, 12, none⟩ = some (.int .i64 atb) ∧ w'.cell? ⟨w.heap.size, 13, none⟩ = some (.int .i64 an)) (go_keep) (first | (go_at_call 93; refine HUA.out.mono ?_; rintro r w5 ⟨rfl, hb5⟩; have nA5 := (hb5.block _ (Array.getElem?_eq_some_iff.1 HnA.out).1).trans HnA.out; obtain ⟨T2, T3, T4, T5, f2, f3, f4, f5, ⟨j1, j2, j3, j4, j5⟩, ⟨j6, j7⟩, ⟨j8, j9⟩, ⟨j10, j11⟩, n6, fo⟩ := sets4 nA5 (.int .i64 s1) (.int .i64 s2) (.int .i64 s3) (.int .i64 s4); have h5 := HA.out.go hb5; have h55 := h5.turn fo HWn.out nA5; have fap := h5.book.cells.2.1; have fac := h5.code; (try simp only at fac); have fal := HLU.out _ h5.book; obtain ⟨fa0, fa1, fa2, fa3, fa4, fa5, fa6, fa7, fa8, fa9, fa10, fa11, fa12, fa13⟩ := h5.ent.at; (try simp only at fa0 fa1 fa2 fa3 fa4 fa5 fa6 fa7 fa8 fa9 fa10 fa11 fa12 fa13); have fbp := h55.book.cells.2.1; have fbc := h55.code; (try simp only at fbc); have fbl := HLU.out _ h55.book; obtain ⟨fb0, fb1, fb2, fb3, fb4, fb5, fb6, fb7, fb8, fb9, fb10, fb11, fb12, fb13⟩ := h55.ent.at; (try simp only at fb0 fb1 fb2 fb3 fb4 fb5 fb6 fb7 fb8 fb9 fb10 fb11 fb12 fb13); have HT5 : Hid (Tw _ T5 _ _ _ _ _ _ _ _) := h55; have HN5 : Hid (NewSt _ T5 _ _ _) := (HNA.out.later hb5).other fo HWm.out nA5; have H6 : Hid (T5.heap[w4.heap.size]? = _) := n6; clear fo n6 hb5 nA5 h5 h55) | (go_at_call 93; refine HUB.out.mono ?_; rintro r w5 ⟨rfl, hb5⟩; obtain ⟨T1, T2, T3, T4, T5, f1, f2, f3, f4, f5, ⟨j1, j2, j3, j4, j5⟩, ⟨j6, j7⟩, ⟨j8, j9⟩, ⟨j10, j11⟩, n6, jb1, jb5⟩ := boxed4 w5 (.int .i64 0) (.int .i64 0) (.int .i64 0) (.int .i64 0) (.int .i64 s1) (.int .i64 s2) (.int .i64 s3) (.int .i64 s4) 46; have h5 := H4d.out.go hb5; have h51 := h5.go jb1; have h55 := h5.go jb5; have fap := h5.book.cells.2.1; have fac := h5.code; (try simp only at fac); have fal := HLU.out _ h5.book; obtain ⟨fa0, fa1, fa2, fa3, fa4, fa5, fa6, fa7, fa8, fa9, fa10, fa11, fa12, fa13⟩ := h5.ent.at; (try simp only at fa0 fa1 fa2 fa3 fa4 fa5 fa6 fa7 fa8 fa9 fa10 fa11 fa12 fa13); have fbp := h51.book.cells.2.1; have fbc := h51.code; (try simp only at fbc); have fbl := HLU.out _ h51.book; obtain ⟨fb0, fb1, fb2, fb3, fb4, fb5, fb6, fb7, fb8, fb9, fb10, fb11, fb12, fb13⟩ := h51.ent.at; (try simp only at fb0 fb1 fb2 fb3 fb4 fb5 fb6 fb7 fb8 fb9 fb10 fb11 fb12 fb13); have fcp := h55.book.cells.2.1; have fcc := h55.code; (try simp only at fcc); have fcl := HLU.out _ h55.book; obtain ⟨fc0, fc1, fc2, fc3, fc4, fc5, fc6, fc7, fc8, fc9, fc10, fc11, fc12, fc13⟩ := h55.ent.at; (try simp only at fc0 fc1 fc2 fc3 fc4 fc5 fc6 fc7 fc8 fc9 fc10 fc11 fc12 fc13); have HT5 : Hid (Tw _ T5 _ _ _ _ _ _ _ _) := h55; have HN5 : Hid (NewSt _ T5 _ _ _) := (HNd.out.later hb5).later jb5; have H6 : Hid (T5.heap[w5.heap.size]? = _) := n6; clear jb1 jb5 n6 hb5 h5 h51 h55))
 all_goals
  obtain ⟨m0, m1, m2, m3⟩ := cells4 H6.out
  go_wp2_with (go_at_call 94; refine (HWl.out _).mono ?_; rintro r w6 ⟨rfl, hb6⟩; have n7 := (hb6.block _ (Array.getElem?_eq_some_iff.1 H6.out).1).trans H6.out; obtain ⟨o0, o1, o2, o3⟩ := cells4 (W := w6.drew) n7; have h6 := HT5.out.go hb6; have h6d := h6.drew; obtain ⟨_, i1, _, i3, i4, i5⟩ := h6d.book.cells; have i6 := h6d.code; (try simp only at i6); obtain ⟨V, st, z, y2, y3, st', z', y4, y5, l1, l2, l3, l4, l5, lo, lp, l6, l7⟩ := HL.out _ _ _ _ h6 _ (HN5.out.later hb6) HV.out; (try simp only at l1 l2 l3 l4 l5 l6 l7); have aw := h6.book.away n7 (by decide); have al := h6.book.away h6.lot (by decide); obtain ⟨s20, s21, s22, s23⟩ := lo _ aw.1 aw.2.1 aw.2.2; obtain ⟨s30, s31, s32, s33⟩ := lo _ al.1 al.2.1 al.2.2; obtain ⟨ca0, ca1, ca2, ca3⟩ := cells4 (s20.trans n7); obtain ⟨cb0, cb1, cb2, cb3⟩ := cells4 (s21.trans n7); obtain ⟨cc0, cc1, cc2, cc3⟩ := cells4 (s22.trans n7); obtain ⟨cd0, cd1, cd2, cd3⟩ := cells4 (s23.trans n7); obtain ⟨_, ka1, _, _⟩ := cells4 (s30.trans h6.lot); obtain ⟨_, kb1, _, _⟩ := cells4 (s31.trans h6.lot); obtain ⟨_, kc1, _, _⟩ := cells4 (s32.trans h6.lot); (try simp only at ka1 kb1 kc1); obtain ⟨pa1, pa3⟩ := lp V (Or.inl rfl); obtain ⟨pb1, pb3⟩ := lp y2 (Or.inr (Or.inl rfl)); obtain ⟨pc1, pc3⟩ := lp y3 (Or.inr (Or.inr (Or.inl rfl))); have HF : Hid (IsBk _ _ _ _ ∧ Off _ _ _) := ⟨l6, l7⟩; clear hb6 h6 h6d l6 l7 n7 lo lp aw al s20 s21 s22 s23 s30 s31 s32 s33)
  go_region
  go_wp2
  go_ret
  exact ⟨rfl, HF.out⟩
theorem turn_any (w : World) (s : Nat → Addr) (B : Nat) (x : Bl) (b : Bk) (e : En) (h : IsBk w B x b) (hz : SzE e) (hs : Bs w s) (he : entErr e = 0) (h1 : e.1 ≠ kGoods) (h2 : e.1 ≠ kLot) :
  Calls Tryz.prog 50 #[.pointer (some ⟨x.p, 0, none⟩), agE e] w fun r w' => r = .returned (errP s (doB b e).2) ∧ IsBk w' B x (doB b e).1 ∧ Off x.all w w' := by
 rcases findI_cases nameL b.2.1 e.2.2.1.1 with ⟨h9, hno⟩ | ⟨k, l, hkL, hl, hid⟩
 ·rw [doB_none he h1 h2 (by omega)]
  exact turn_none w s B x b e h hz hs hno
 ·obtain ⟨g0, hg0, hg1⟩ := h.ok.wf.lots l (List.mem_of_getElem? hl)
  rcases findI_cases nameG b.1 l.1.2.1 with ⟨_, h8⟩ | ⟨i, g, hiG, hg, hgn⟩
  ·exact absurd hg1 (h8 g0 hg0)
  rw [doB_at he h1 h2 hkL hl hiG hg]
  by_cases hc : stkE e b.2.2 = 0
  ·by_cases hh : heldN e.1 l.2 e.2.2.2.2.2 < 0
   ·have ep : pieceE b e l g = 9 := by unfold pieceE; rw [if_pos hc, if_pos (Or.inl hh)]
    rw [ep, if_neg (by decide)]
    exact turn_neg w s B x b e h hz hs k i l g hl hid hg hgn he h1 h2 hc hh
   by_cases ho : ofL (stkL e b.2.2) e.2.2.1.1 < heldN e.1 l.2 e.2.2.2.2.2
   ·have ep : pieceE b e l g = 9 := by unfold pieceE; rw [if_pos hc, if_pos (Or.inr ho)]
    rw [ep, if_neg (by decide)]
    exact turn_short w s B x b e h hz hs k i l g hl hid hg hgn he h1 h2 hc (by omega) ho
   cases hu : okSu (addSu e.1 g.2 e.2.2.2.2.2) with
   | false =>
    have ep : pieceE b e l g = 2 := by unfold pieceE; rw [if_pos hc, if_neg (by omega), hu]; rfl
    rw [ep, if_neg (by decide)]
    exact turn_bound w s B x b e h hz hs k i l g hl hid hg hgn he h1 h2 hc (by omega) (by omega) hu
   | true =>
    have ep : pieceE b e l g = 0 := by unfold pieceE; rw [if_pos hc, if_neg (by omega), hu]; rfl
    rw [if_pos ep]
    exact turn_ok w s B x b e h hz hs k i l g hl hid hg hgn he h1 h2 hc (by omega) (by omega) hu
  ·have ep : pieceE b e l g = stkE e b.2.2 := by unfold pieceE; rw [if_neg hc]
   rw [ep, if_neg hc]
   exact turn_stk w s B x b e h hz hs k i l g hl hid hg hgn he h1 h2 hc
theorem bdo_err (w : World) (s : Nat → Addr) (B : Nat) (x : Bl) (b : Bk) (e : En) (h : IsBk w B x b) (hz : SzE e) (hs : Bs w s) (he : entErr e ≠ 0) :
  Calls Tryz.prog 13 #[.pointer (some ⟨x.p, 0, none⟩), agE e] w fun r w' => r = .returned (errP s (entErr e)) ∧ IsBk w' B x b ∧ Off x.all w w' := by
 have hE := BlkE.new w e
 have hb1 : Below w.heap.size w (w.alloc (celE e)) := (Below.refl _ w).alloc (Nat.le_refl _) _
 have hC := echeck_any e (w.alloc (celE e)) s hz (hs.below hb1).es
 rw [errP_pos s he] at hC ⊢
 generalize s (entErr e - 1) = ad at *
 obtain ⟨ps, bs, h⟩ := h
 obtain ⟨_, _, _, _, p4, _⟩ := (h.all hb1).cells
 obtain ⟨t0, t1, t2, t3, t4, t5, t6, t7, t8, t9, t10, t11, t12, t13⟩ := hE.at
 have HF : Hid (∀ W, Below w.heap.size w W → IsBk W B x b ∧ Off x.all w W) := fun W hb => ⟨⟨ps, bs, h.all hb⟩, Off.of_below hb⟩
 have HB : Hid (Below _ _ _) := hb1
 have HC : Hid (Calls Tryz.prog 47 _ _ _) := hC
 clear h hz hs he hE hb1 hC
 obtain ⟨ak, ⟨agc, agp⟩, ⟨ali, alc, alu, alk⟩, ⟨afz, afr, afb⟩, ⟨atz, atr, atb⟩, an⟩ := e
 unfold agE celE at *
 simp only at *
 go_enter Tryz.func13, Tryz.ntmps13
 go_wp2_with (go_at_call 47; refine HC.out.mono ?_; rintro r w1 ⟨rfl, hb2⟩)
 go_ret
 exact ⟨rfl, HF.out _ (HB.out.trans (hb2.mono HB.out.size))⟩
theorem bdo_goods (w : World) (s : Nat → Addr) (B : Nat) (x : Bl) (b : Bk) (e : En) (h : IsBk w B x b) (hz : SzE e) (hs : Bs w s) (he : entErr e = 0) (hk : e.1 = kGoods) :
  Calls Tryz.prog 13 #[.pointer (some ⟨x.p, 0, none⟩), agE e] w fun r w' => r = .returned (errP s (doB b e).2) ∧ IsBk w' B x (doB b e).1 ∧ Off x.all w w' := by
 have hE := BlkE.new w e
 have hb1 : Below w.heap.size w (w.alloc (celE e)) := (Below.refl _ w).alloc (Nat.le_refl _) _
 have hC := echeck_any e (w.alloc (celE e)) s hz (hs.below hb1).es
 rw [he, errP_zero] at hC
 have HD : Hid (∀ W, Below w.heap.size w W → Calls Tryz.prog 48 #[.pointer (some ⟨x.p, 0, none⟩), agG e.2.1] W fun r w' => r = .returned (errP s (doB b e).2) ∧ IsBk w' B x (doB b e).1 ∧ Off x.all w w') := fun W hb => by
  have := addGoods_any e.2.1 W s B x b (h.below hb) hz.gc (hs.below hb)
  refine this.mono fun r w' ⟨r1, r2, r3⟩ => ?_
  rw [doB_goods he hk]
  by_cases h0 : goodsE b e.2.1 = 0
  ·rw [if_pos h0] at r2 ⊢
   rw [h0] at r1
   exact ⟨r1, r2, (Off.of_below hb).trans r3⟩
  ·rw [if_neg h0] at r2 ⊢
   exact ⟨r1, r2, (Off.of_below hb).trans r3⟩
 obtain ⟨ps, bs, h⟩ := h
 obtain ⟨_, _, _, _, p4, _⟩ := (h.all hb1).cells
 have x1 : (e.1.toList == kGoods.data.toList) = true := same_wordR hk
 obtain ⟨t0, t1, t2, t3, t4, t5, t6, t7, t8, t9, t10, t11, t12, t13⟩ := hE.at
 have HE : Hid (BlkE _ _ _) := hE
 have HB : Hid (Below _ _ _) := hb1
 have HC : Hid (Calls Tryz.prog 47 _ _ _) := hC
 generalize doB b e = D at *
 clear h hz hs he hE hb1 hC hk
 obtain ⟨ak, ⟨agc, agp⟩, ⟨ali, alc, alu, alk⟩, ⟨afz, afr, afb⟩, ⟨atz, atr, atb⟩, an⟩ := e
 unfold agE celE agG at *
 simp only at *
 go_enter Tryz.func13, Tryz.ntmps13
 go_wp2_with (first
  | (go_at_call 47; refine HC.out.mono ?_; rintro r w1 ⟨rfl, hb2⟩; obtain ⟨u0, u1, u2, u3, u4, u5, u6, u7, u8, u9, u10, u11, u12, u13⟩ := (HE.out.below hb2).at; (try simp only at u0 u1 u2 u3 u4 u5 u6 u7 u8 u9 u10 u11 u12 u13); have hb3 : Hid (Below _ _ _) := HB.out.trans (hb2.mono HB.out.size); clear hb2)
  | (go_at_call 48; refine (HD.out _ hb3.out).mono ?_; rintro r w2 ⟨rfl, hr⟩))
 go_ret
 exact ⟨rfl, hr⟩
theorem bdo_lot (w : World) (s : Nat → Addr) (B : Nat) (x : Bl) (b : Bk) (e : En) (h : IsBk w B x b) (hz : SzE e) (hs : Bs w s) (he : entErr e = 0) (hk : e.1 = kLot) :
  Calls Tryz.prog 13 #[.pointer (some ⟨x.p, 0, none⟩), agE e] w fun r w' => r = .returned (errP s (doB b e).2) ∧ IsBk w' B x (doB b e).1 ∧ Off x.all w w' := by
 have hE := BlkE.new w e
 have hb1 : Below w.heap.size w (w.alloc (celE e)) := (Below.refl _ w).alloc (Nat.le_refl _) _
 have hC := echeck_any e (w.alloc (celE e)) s hz (hs.below hb1).es
 rw [he, errP_zero] at hC
 have HD : Hid (∀ W, Below w.heap.size w W → Calls Tryz.prog 49 #[.pointer (some ⟨x.p, 0, none⟩), agQ e.2.2.1] W fun r w' => r = .returned (errP s (doB b e).2) ∧ IsBk w' B x (doB b e).1 ∧ Off x.all w w') := fun W hb => by
  have := addLot_any e.2.2.1 W s B x b (h.below hb) hz.li hz.lc (hs.below hb)
  refine this.mono fun r w' ⟨r1, r2, r3⟩ => ?_
  rw [doB_lot he hk]
  by_cases h0 : lotBE b e.2.2.1 = 0
  ·rw [if_pos h0] at r2 ⊢
   rw [h0] at r1
   exact ⟨r1, r2, (Off.of_below hb).trans r3⟩
  ·rw [if_neg h0] at r2 ⊢
   exact ⟨r1, r2, (Off.of_below hb).trans r3⟩
 obtain ⟨ps, bs, h⟩ := h
 obtain ⟨_, _, _, _, p4, _⟩ := (h.all hb1).cells
 have x0 : (e.1.toList == kGoods.data.toList) = false := other_word (by rw [hk]; decide)
 have x1 : (e.1.toList == kLot.data.toList) = true := same_wordR hk
 obtain ⟨t0, t1, t2, t3, t4, t5, t6, t7, t8, t9, t10, t11, t12, t13⟩ := hE.at
 have HE : Hid (BlkE _ _ _) := hE
 have HB : Hid (Below _ _ _) := hb1
 have HC : Hid (Calls Tryz.prog 47 _ _ _) := hC
 generalize doB b e = D at *
 clear h hz hs he hE hb1 hC hk
 obtain ⟨ak, ⟨agc, agp⟩, ⟨ali, alc, alu, alk⟩, ⟨afz, afr, afb⟩, ⟨atz, atr, atb⟩, an⟩ := e
 unfold agE celE agQ at *
 simp only at *
 go_enter Tryz.func13, Tryz.ntmps13
 go_wp2_with (first
  | (go_at_call 47; refine HC.out.mono ?_; rintro r w1 ⟨rfl, hb2⟩; obtain ⟨u0, u1, u2, u3, u4, u5, u6, u7, u8, u9, u10, u11, u12, u13⟩ := (HE.out.below hb2).at; (try simp only at u0 u1 u2 u3 u4 u5 u6 u7 u8 u9 u10 u11 u12 u13); have hb3 : Hid (Below _ _ _) := HB.out.trans (hb2.mono HB.out.size); clear hb2)
  | (go_at_call 49; refine (HD.out _ hb3.out).mono ?_; rintro r w2 ⟨rfl, hr⟩))
 go_ret
 exact ⟨rfl, hr⟩
theorem bdo_turn (w : World) (s : Nat → Addr) (B : Nat) (x : Bl) (b : Bk) (e : En) (h : IsBk w B x b) (hz : SzE e) (hs : Bs w s) (he : entErr e = 0) (h1 : e.1 ≠ kGoods) (h2 : e.1 ≠ kLot) :
  Calls Tryz.prog 13 #[.pointer (some ⟨x.p, 0, none⟩), agE e] w fun r w' => r = .returned (errP s (doB b e).2) ∧ IsBk w' B x (doB b e).1 ∧ Off x.all w w' := by
 have hE := BlkE.new w e
 have hb1 : Below w.heap.size w (w.alloc (celE e)) := (Below.refl _ w).alloc (Nat.le_refl _) _
 have hC := echeck_any e (w.alloc (celE e)) s hz (hs.below hb1).es
 rw [he, errP_zero] at hC
 have HD : Hid (∀ W, Below w.heap.size w W → Calls Tryz.prog 50 #[.pointer (some ⟨x.p, 0, none⟩), agE e] W fun r w' => r = .returned (errP s (doB b e).2) ∧ IsBk w' B x (doB b e).1 ∧ Off x.all w w') := fun W hb =>
  (turn_any W s B x b e (h.below hb) hz (hs.below hb) he h1 h2).mono fun r w' ⟨r1, r2, r3⟩ => ⟨r1, r2, (Off.of_below hb).trans r3⟩
 obtain ⟨ps, bs, h⟩ := h
 obtain ⟨_, _, _, _, p4, _⟩ := (h.all hb1).cells
 have x0 : (e.1.toList == kGoods.data.toList) = false := other_word h1
 have x1 : (e.1.toList == kLot.data.toList) = false := other_word h2
 obtain ⟨t0, t1, t2, t3, t4, t5, t6, t7, t8, t9, t10, t11, t12, t13⟩ := hE.at
 have HE : Hid (BlkE _ _ _) := hE
 have HB : Hid (Below _ _ _) := hb1
 have HC : Hid (Calls Tryz.prog 47 _ _ _) := hC
 generalize doB b e = D at *
 clear h hz hs he hE hb1 hC h1 h2
 obtain ⟨ak, ⟨agc, agp⟩, ⟨ali, alc, alu, alk⟩, ⟨afz, afr, afb⟩, ⟨atz, atr, atb⟩, an⟩ := e
 unfold agE celE at *
 simp only at *
 go_enter Tryz.func13, Tryz.ntmps13
 go_wp2_with (first
  | (go_at_call 47; refine HC.out.mono ?_; rintro r w1 ⟨rfl, hb2⟩; obtain ⟨u0, u1, u2, u3, u4, u5, u6, u7, u8, u9, u10, u11, u12, u13⟩ := (HE.out.below hb2).at; (try simp only at u0 u1 u2 u3 u4 u5 u6 u7 u8 u9 u10 u11 u12 u13); have hb3 : Hid (Below _ _ _) := HB.out.trans (hb2.mono HB.out.size); clear hb2)
  | (go_at_call 50; refine (HD.out _ hb3.out).mono ?_; rintro r w2 ⟨rfl, hr⟩))
 go_ret
 exact ⟨rfl, hr⟩
theorem bdo_any (w : World) (s : Nat → Addr) (B : Nat) (x : Bl) (b : Bk) (e : En) (h : IsBk w B x b) (hz : SzE e) (hs : Bs w s) :
  Calls Tryz.prog 13 #[.pointer (some ⟨x.p, 0, none⟩), agE e] w fun r w' => r = .returned (errP s (doB b e).2) ∧ IsBk w' B x (doB b e).1 ∧ Off x.all w w' := by
 by_cases he : entErr e = 0
 ·by_cases h1 : e.1 = kGoods
  ·exact bdo_goods w s B x b e h hz hs he h1
  by_cases h2 : e.1 = kLot
  ·exact bdo_lot w s B x b e h hz hs he h2
  exact bdo_turn w s B x b e h hz hs he h1 h2
 ·rw [doB_err he]
  exact bdo_err w s B x b e h hz hs he
theorem Tryz.guardU : Tryz.prog.eqGuardType Tryz.prog.depth 46 = false := by kernel_rfl
theorem eqU_run (x y : Su) (w : World) : (Op.equalIn 10000 46 (.agg #[.int .i64 x.1, .int .i64 x.2.1, .int .i64 x.2.2.1, .int .i64 x.2.2.2]) (.agg #[.int .i64 y.1, .int .i64 y.2.1, .int .i64 y.2.2.1, .int .i64 y.2.2.2])).run Tryz.prog w = .ok (decide (x = y)) w := by
 obtain ⟨a, c, u, k⟩ := x
 obtain ⟨a', c', u', k'⟩ := y
 simp only
 have u3 := Tryz.underlying3
 have a3 := Tryz.isAgg3
 have z3 := Tryz.sizeOf3
 have hS : Tryz.prog.underlying 46 = some (.struct (Tryz.prog.fieldsOf 46)) := by kernel_rfl
 have hp : Tryz.prog.stoodInHeld 46 = false := by kernel_rfl
 rw [show (10000 : Nat) = 9999 + 1 from rfl, run_equalIn_agg w 9999 46 _ _ hS hp]
 simp only [Program.fieldsOf, Tryz.underlying46]
 go_simp
 by_cases h1 : a = a' <;> by_cases h2 : c = c' <;> by_cases h3 : u = u' <;> by_cases h4 : k = k' <;> simp [h1, h2, h3, h4]
def zRye : ByteArray := ⟨#[114, 121, 101]⟩
def zL1 : ByteArray := ⟨#[108, 49]⟩
def zPl : Pl := (⟨#[]⟩, 0, 0)
def stE1 : En := (kGoods, (zRye, 6), zeroLo, zPl, zPl, 0)
def stE2 : En := (kLot, (⟨#[]⟩, 0), (zL1, zRye, 9, 2), zPl, zPl, 0)
def stE3 : En := (kIn, (⟨#[]⟩, 0), (zL1, ⟨#[]⟩, 0, 0), zPl, (⟨#[97]⟩, 1, 1), 7)
def stB1 : Bk := ([((zRye, 6), zeroSu)], [], [])
def stB2 : Bk := ([((zRye, 6), zeroSu)], [((zL1, zRye, 9, 2), 0)], [])
def stB3 : Bk := ([((zRye, 6), (7, 0, 0, 0))], [((zL1, zRye, 9, 2), 0)], [((⟨#[97]⟩, 1, 1), zL1, 7)])
theorem st1 : doB ([], [], []) stE1 = (stB1, 0) := by kernel_rfl
theorem st2 : doB stB1 stE2 = (stB2, 0) := by kernel_rfl
theorem st3 : doB stB2 stE3 = (stB3, 0) := by kernel_rfl
theorem st4 : hasL stB3.2.2 zRye stB3.2.1 = 7 := by decide
theorem st5 : sumsB stB3 zRye = (7, 0, 0, 0) := by decide
theorem stZ1 : SzE stE1 := ⟨by decide, by decide, by decide, by decide, by decide, by decide⟩
theorem stZ2 : SzE stE2 := ⟨by decide, by decide, by decide, by decide, by decide, by decide⟩
theorem stZ3 : SzE stE3 := ⟨by decide, by decide, by decide, by decide, by decide, by decide⟩
theorem started_any (w : World) (s : Nat → Addr) (hs : Bs w s) : Calls Tryz.prog 8 #[] w fun e w' => e = .returned (.bool true) ∧ Below w.heap.size w w' := by
 have HN : Hid (Calls Tryz.prog 18 _ _ _) := bnew_any w
 have key : ∀ (b b' : Bk) (e : En) (x : Bl) (W : World), doB b e = (b', 0) → SzE e → IsBk W w.heap.size x b → Below w.heap.size w W → Calls Tryz.prog 13 #[.pointer (some ⟨x.p, 0, none⟩), agE e] W fun r w' => r = .returned .nilIface ∧ IsBk w' w.heap.size x b' ∧ Below w.heap.size w w' := fun b b' e x W hd hz hI hb =>
  (bdo_any W s w.heap.size x b e hI hz (hs.below hb)).mono fun r w' ⟨r1, r2, r3⟩ => by
   rw [hd] at r1 r2
   exact ⟨r1, r2, hb.trans (r3.below hb.size fun k hk => (hI.low k hk).1)⟩
 have H1 : Hid (∀ x W, IsBk W w.heap.size x ([], [], []) → Below w.heap.size w W → _) := fun x W => key _ _ stE1 x W st1 stZ1
 have H2 : Hid (∀ x W, IsBk W w.heap.size x stB1 → Below w.heap.size w W → _) := fun x W => key _ _ stE2 x W st2 stZ2
 have H3 : Hid (∀ x W, IsBk W w.heap.size x stB2 → Below w.heap.size w W → _) := fun x W => key _ _ stE3 x W st3 stZ3
 have H4 : Hid (∀ x W, IsBk W w.heap.size x stB3 → Calls Tryz.prog 17 #[.pointer (some ⟨x.p, 0, none⟩), .string zRye] W fun e w' => e = .returned (.int .i64 7) ∧ Below W.heap.size W w') := fun x W hI => by
  have := bhas_any zRye W w.heap.size x stB3 hI
  rw [st4] at this
  exact this
 have H5 : Hid (∀ x W, IsBk W w.heap.size x stB3 → Calls Tryz.prog 16 #[.pointer (some ⟨x.p, 0, none⟩), .string zRye] W fun e w' => e = .returned (.agg #[.int .i64 7, .int .i64 0, .int .i64 0, .int .i64 0]) ∧ Below W.heap.size W w') := fun x W hI => by
  have := bsums_any zRye W w.heap.size x stB3 hI (by decide)
  rw [st5] at this
  exact this
 have hq := fun W => eqU_run (7, 0, 0, 0) (7, 0, 0, 0) W
 have hgd := Tryz.guardU
 simp only at hq
 unfold agE stE1 at H1
 unfold agE stE2 at H2
 unfold agE stE3 at H3
 unfold zPl zeroLo at *
 unfold zRye zL1 at *
 simp only at H1 H2 H3
 clear key hs
 go_enter Tryz.func8, Tryz.ntmps8
 go_wp2_with (first
  | (go_at_call 18; refine HN.out.mono ?_; rintro e w1 ⟨x, rfl, hI1, hb1⟩; have HI1 : Hid (IsBk _ _ _ _) := hI1; have HB1 : Hid (Below _ _ _) := hb1; clear hI1 hb1)
  | (go_at_call_of 13 (Value.string ⟨#[103, 111, 111, 100, 115]⟩); refine (H1.out _ _ HI1.out HB1.out).mono ?_; rintro e w2 ⟨rfl, hI2, hb2⟩; have HI2 : Hid (IsBk _ _ _ _) := hI2; have HB2 : Hid (Below _ _ _) := hb2; clear hI2 hb2)
  | (go_at_call_of 13 (Value.string ⟨#[108, 111, 116]⟩); refine (H2.out _ _ HI2.out HB2.out).mono ?_; rintro e w3 ⟨rfl, hI3, hb3⟩; have HI3 : Hid (IsBk _ _ _ _) := hI3; have HB3 : Hid (Below _ _ _) := hb3; clear hI3 hb3)
  | (go_at_call_of 13 (Value.string ⟨#[105, 110]⟩); refine (H3.out _ _ HI3.out HB3.out).mono ?_; rintro e w4 ⟨rfl, hI4, hb4⟩; have HI4 : Hid (IsBk _ _ _ _) := hI4; have HB4 : Hid (Below _ _ _) := hb4; clear hI4 hb4)
  | (go_at_call 17; refine (H4.out _ _ HI4.out).mono ?_; rintro e w5 ⟨rfl, hb5⟩; have HI5 : Hid (IsBk _ _ _ _) := HI4.out.below hb5; have HB5 : Hid (Below _ _ _) := HB4.out.trans (hb5.mono HB4.out.size); clear hb5)
  | (go_at_call 16; refine (H5.out _ _ HI5.out).mono ?_; rintro e w6 ⟨rfl, hb6⟩; have HB6 : Hid (Below _ _ _) := HB5.out.trans (hb6.mono HB5.out.size); clear hb6))
 go_ret
 exact ⟨rfl, HB6.out⟩
theorem sameTexts_one (z : ByteArray) (g g' c c' : Nat) (w : World) (h1 : w.cell? ⟨g, 0, none⟩ = some (.string z)) (h2 : w.cell? ⟨g', 0, none⟩ = some (.string z)) :
  Calls Tryz.prog 35 #[.slice (some ⟨g, 0, none⟩) 1 c, .slice (some ⟨g', 0, none⟩) 1 c'] w fun e w' => e = .returned (.bool true) ∧ Below w.heap.size w w' := by
 have e3 := same_eq z z
 rw [decide_eq_true rfl] at e3
 have hd1 : ∀ n, (w.drewN n).cell? ⟨g, 0, none⟩ = some (.string z) := fun n => h1
 go_enter Tryz.func35, Tryz.ntmps35
 go_wp2
 refine wp_loop_rounds 2 ?_
 rw [rounds_succ]
 go_wp2
 go_quiet (fail)
 go_wp2
 rw [rounds_succ]
 go_wp2
 go_ret
 exact ⟨rfl, below_drewN (Below.refl _ _) _⟩
end Go.Proofs.YteomomeigbfeoaaGreatDoor
