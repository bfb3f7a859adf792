/-
 What book.New and whole answer: an empty book; the book itself; nothing old is turned.
-/
import Derived.Test.YtppodkkefegbkaaGreatDoorJz17
import Derived.Test.YtppodkkefegbkaaGreatDoorJz13
import Derived.Test.YtppodkkefegbkaaGreatDoorJz7
import Derived.BigRegion
import Derived.Maps.OwnOps
set_option maxRecDepth 100000
set_option maxHeartbeats 16000000
namespace Go.Proofs.YtppodkkefegbkaaGreatDoor
open Go.RowKit Go.Lib Go.Sort
theorem newB_any (w : World) : Calls Tryz.prog 59 #[] w fun e w' => e = .returned (.pointer (some ⟨w.heap.size + 1, 0, none⟩)) ∧ IsStock w' (w.heap.size + 1) w.heap.size [] ∧ w'.heap[w.heap.size + 1]? = some (.cells #[.map (some w.heap.size)] 97 (0, 0)) ∧ w'.heap.size = w.heap.size + 2 ∧ Below w.heap.size w w' := by
 have hmm := @run_makeMap Tryz.prog
 go_enter Tryz.func59, Tryz.ntmps59
 go_wp2
 go_ret
 refine ⟨rfl, ⟨by simp, ?_, Wf.nil⟩, ?_, by simp, ((Below.refl _ w).alloc (Nat.le_refl _) _).alloc (by simp) _⟩
 ·exact (MapL.made _ _ w).below ((Below.refl (w.heap.size + 1) _).alloc (by simp) _) (by omega)
 ·have := heap_alloc_new (w.alloc (.map #[] 0)) (.cells #[.map (some w.heap.size)] 97)
  simpa using this
theorem bnew_any (w : World) : Calls Tryz.prog 28 #[] w fun e w' => ∃ x : Bl, e = .returned (.pointer (some ⟨x.p, 0, none⟩)) ∧ IsBk w' w.heap.size x ([], [], []) ∧ Below w.heap.size w w' := by
 have hmm := @run_makeMap Tryz.prog
 have b1 : Below w.heap.size w (w.alloc (.map #[] 0)) := (Below.refl _ w).alloc (Nat.le_refl _) _
 have m1 := MapL.made Tryz.prog 9 w
 have z1 : (w.alloc (.map #[] 0)).heap.size = w.heap.size + 1 := by simp
 obtain ⟨w1, h1⟩ : ∃ w1, w.alloc (.map #[] 0) = w1 := ⟨_, rfl⟩
 rw [h1] at b1 m1 z1
 have b2 : Below w1.heap.size w1 (w1.alloc (.map #[] 0)) := (Below.refl _ w1).alloc (Nat.le_refl _) _
 have m2 := MapL.made Tryz.prog 9 w1
 have z2 : (w1.alloc (.map #[] 0)).heap.size = w1.heap.size + 1 := by simp
 obtain ⟨w2, h2⟩ : ∃ w2, w1.alloc (.map #[] 0) = w2 := ⟨_, rfl⟩
 rw [h2] at b2 m2 z2
 have b3 : Below w2.heap.size w2 (w2.alloc (.map #[] 0)) := (Below.refl _ w2).alloc (Nat.le_refl _) _
 have m3 := MapL.made Tryz.prog 9 w2
 have z3 : (w2.alloc (.map #[] 0)).heap.size = w2.heap.size + 1 := by simp
 obtain ⟨w3, h3⟩ : ∃ w3, w2.alloc (.map #[] 0) = w3 := ⟨_, rfl⟩
 rw [h3] at b3 m3 z3
 have b4 : Below w3.heap.size w3 (w3.alloc (.map #[] 0)) := (Below.refl _ w3).alloc (Nat.le_refl _) _
 have m4 := MapL.made Tryz.prog 9 w3
 have z4 : (w3.alloc (.map #[] 0)).heap.size = w3.heap.size + 1 := by simp
 obtain ⟨w4, h4⟩ : ∃ w4, w3.alloc (.map #[] 0) = w4 := ⟨_, rfl⟩
 rw [h4] at b4 m4 z4
 have HN : Hid (Calls Tryz.prog 59 #[] w4 _) := newB_any w4
 have m1' := ((m1.below b2 (by omega)).below b3 (by omega)).below b4 (by omega)
 have m2' := (m2.below b3 (by omega)).below b4 (by omega)
 have m3' := m3.below b4 (by omega)
 have hb4 : Below w.heap.size w w4 := ((b1.trans (b2.mono (by omega))).trans (b3.mono (by omega))).trans (b4.mono (by omega))
 have HM : Hid (MapL Tryz.prog 9 w4 w.heap.size [] ∧ MapL Tryz.prog 9 w4 w1.heap.size [] ∧ MapL Tryz.prog 9 w4 w2.heap.size [] ∧ MapL Tryz.prog 9 w4 w3.heap.size [] ∧ Below w.heap.size w w4) := ⟨m1', m2', m3', m4, hb4⟩
 have HZ : Hid (w1.heap.size = w.heap.size + 1 ∧ w2.heap.size = w1.heap.size + 1 ∧ w3.heap.size = w2.heap.size + 1 ∧ w4.heap.size = w3.heap.size + 1) := ⟨z1, z2, z3, z4⟩
 clear m1 m2 m3 m4 m1' m2' m3' b1 b2 b3 b4 hb4 z1 z2 z3 z4
 go_enter Tryz.func28, Tryz.ntmps28
 go_wp2_with (go_at_call 59; refine HN.out.mono ?_; rintro e w5 ⟨rfl, hS, hsb, hz5, hb5⟩; have HZ5 : Hid (w5.heap.size = w4.heap.size + 2) := hz5; clear hz5)
 go_ret
 obtain ⟨m1, m2, m3, m4, hb4⟩ := HM.out
 obtain ⟨z1, z2, z3, z4⟩ := HZ.out
 have hz5 := HZ5.out
 have hb6 : Below w5.heap.size w5 (w5.alloc (.cells #[.map (some w.heap.size), .map (some w1.heap.size), .map (some w2.heap.size), .map (some w3.heap.size), .pointer (some ⟨w4.heap.size + 1, 0, none⟩)] 92)) := (Below.refl _ w5).alloc (Nat.le_refl _) _
 have n6 := heap_alloc_new w5 (.cells #[.map (some w.heap.size), .map (some w1.heap.size), .map (some w2.heap.size), .map (some w3.heap.size), .pointer (some ⟨w4.heap.size + 1, 0, none⟩)] 92)
 generalize w5.alloc (.cells #[.map (some w.heap.size), .map (some w1.heap.size), .map (some w2.heap.size), .map (some w3.heap.size), .pointer (some ⟨w4.heap.size + 1, 0, none⟩)] 92) = w6 at *
 have q5 : Below w.heap.size w w5 := hb4.trans (hb5.mono (by omega))
 have q6 : Below w.heap.size w w6 := q5.trans (hb6.mono (by omega))
 refine ⟨⟨w5.heap.size, w.heap.size, w1.heap.size, w2.heap.size, w3.heap.size⟩, rfl, ⟨w4.heap.size + 1, w4.heap.size, ?_⟩, q6⟩
 have h5 : Below w4.heap.size w4 w6 := hb5.trans (hb6.mono (by omega))
 exact { blk := n6, G := m1.below h5 (by omega), U := m2.below h5 (by omega), L := m3.below h5 (by omega), H := m4.below h5 (by omega), sblk := (hb6.block _ (by omega)).trans hsb, S := hS.all hb6, ok := BkOk.nil, bp := by simp only; omega, bg := Nat.le_refl _, gu := by simp only; omega, ul := by simp only; omega, lh := by simp only; omega, hs := by simp only; omega, bs := by omega }
theorem whole_any (w : World) (B : Nat) (x : Bl) (b : Bk) (h : IsBk w B x b) : Calls Tryz.prog 38 #[.pointer (some ⟨x.p, 0, none⟩)] w fun e w' => e = .returned (.pointer (some ⟨x.p, 0, none⟩)) ∧ w' = w := by
 obtain ⟨ps, bs, h⟩ := h
 obtain ⟨_, _, _, _, c4, _⟩ := h.cells
 clear h
 go_enter Tryz.func38, Tryz.ntmps38
 go_wp2
 go_ret
 exact ⟨rfl, rfl⟩
end Go.Proofs.YtppodkkefegbkaaGreatDoor
namespace Go.Proofs.YtppodkkefegbkaaGreatDoor
open Go.RowKit Go.Lib Go.Sort
open Go.Maps (Keyed)
structure Bs (w : World) (s : Nat → Addr) : Prop where
 es : Ec w s
 five : Five w s
 none_ : w.cell? ⟨1, 0, none⟩ = some (err (s 5))
 exist : w.cell? ⟨2, 0, none⟩ = some (err (s 6))
theorem Bs.below {w w' : World} {s : Nat → Addr} (h : Bs w s) (hb : Below w.heap.size w w') : Bs w' s where
 es := h.es.below hb
 five := h.five.below hb
 none_ := by rw [hb.cell (p := ⟨1, 0, none⟩) (cell_lt h.none_)]; exact h.none_
 exist := by rw [hb.cell (p := ⟨2, 0, none⟩) (cell_lt h.exist)]; exact h.exist
theorem Sent.bs {w : World} {s : Nat → Addr} (h : Sent w s) : Bs w s := ⟨h.es.ec, h.five, h.cell 5 (by decide), h.cell 6 (by decide)⟩
theorem mem_entG {m : List Gs} {c : ByteArray} {v : Value} (h : (.string c, v) ∈ m.map entG) : ∃ g ∈ m, nameG g = c ∧ v = agG g.1 := by
 obtain ⟨g, hg, e⟩ := List.mem_map.1 h
 unfold entG at e
 simp only [Prod.mk.injEq, Value.string.injEq] at e
 exact ⟨g, hg, e.1, e.2.symm⟩
theorem mem_entU {m : List Gs} {c : ByteArray} {v : Value} (h : (.string c, v) ∈ m.map entU) : ∃ g ∈ m, nameG g = c ∧ v = agU g.2 := by
 obtain ⟨g, hg, e⟩ := List.mem_map.1 h
 unfold entU at e
 simp only [Prod.mk.injEq, Value.string.injEq] at e
 exact ⟨g, hg, e.1, e.2.symm⟩
theorem mem_entL {m : List Lh} {c : ByteArray} {v : Value} (h : (.string c, v) ∈ m.map entL) : ∃ g ∈ m, nameL g = c ∧ v = agQ g.1 := by
 obtain ⟨g, hg, e⟩ := List.mem_map.1 h
 unfold entL at e
 simp only [Prod.mk.injEq, Value.string.injEq] at e
 exact ⟨g, hg, e.1, e.2.symm⟩
theorem mem_entH {m : List Lh} {c : ByteArray} {v : Value} (h : (.string c, v) ∈ m.map entH) : ∃ g ∈ m, nameL g = c ∧ v = .int .i64 g.2 := by
 obtain ⟨g, hg, e⟩ := List.mem_map.1 h
 unfold entH at e
 simp only [Prod.mk.injEq, Value.string.injEq] at e
 exact ⟨g, hg, e.1, e.2.symm⟩
theorem BkAt.drew {w : World} {B : Nat} {x : Bl} {ps bs : Nat} {b : Bk} (h : BkAt w B x ps bs b) : BkAt w.drew B x ps bs b := h.of_blocks fun _ _ => rfl
theorem BkAt.askG_yes {w : World} {B : Nat} {x : Bl} {ps bs : Nat} {b : Bk} (h : BkAt w B x ps bs b) {c : ByteArray} (hc : c.size ≤ maxLen) {g : Gs} (hg : g ∈ b.1) (e : nameG g = c) : (Instr.lookup 87 (.map (some x.g)) (.string c) true).run Tryz.prog w = .ok (.tuple #[.agg #[.string g.1.1, .int .i64 g.1.2], .bool true]) w :=
 h.G.ask_hit Tryz.keyedS Tryz.underlying87 (keyS hc) (List.mem_map.2 ⟨g, hg, by unfold entG; rw [← e]; rfl⟩)
theorem BkAt.askG_no {w : World} {B : Nat} {x : Bl} {ps bs : Nat} {b : Bk} (h : BkAt w B x ps bs b) {c : ByteArray} (hc : c.size ≤ maxLen) (hn : ∀ g ∈ b.1, nameG g ≠ c) : (Instr.lookup 87 (.map (some x.g)) (.string c) true).run Tryz.prog w = .ok (.tuple #[.agg #[.string ⟨#[]⟩, .int .i64 0], .bool false]) w :=
 h.G.ask_miss Tryz.keyedS Tryz.underlying87 (keyS hc) (Tryz.zeroValue37 w) fun v hv => by
  obtain ⟨g, hg, e, _⟩ := mem_entG hv
  exact hn g hg e
theorem BkAt.askL_yes {w : World} {B : Nat} {x : Bl} {ps bs : Nat} {b : Bk} (h : BkAt w B x ps bs b) {c : ByteArray} (hc : c.size ≤ maxLen) {g : Lh} (hg : g ∈ b.2.1) (e : nameL g = c) : (Instr.lookup 89 (.map (some x.l)) (.string c) true).run Tryz.prog w = .ok (.tuple #[.agg #[.string g.1.1, .string g.1.2.1, .int .i64 g.1.2.2.1, .int .i64 g.1.2.2.2], .bool true]) w :=
 h.L.ask_hit Tryz.keyedS Tryz.underlying89 (keyS hc) (List.mem_map.2 ⟨g, hg, by unfold entL; rw [← e]; rfl⟩)
theorem BkAt.askL_no {w : World} {B : Nat} {x : Bl} {ps bs : Nat} {b : Bk} (h : BkAt w B x ps bs b) {c : ByteArray} (hc : c.size ≤ maxLen) (hn : ∀ g ∈ b.2.1, nameL g ≠ c) : (Instr.lookup 89 (.map (some x.l)) (.string c) true).run Tryz.prog w = .ok (.tuple #[.agg #[.string ⟨#[]⟩, .string ⟨#[]⟩, .int .i64 0, .int .i64 0], .bool false]) w :=
 h.L.ask_miss Tryz.keyedS Tryz.underlying89 (keyS hc) (Tryz.zeroValue39 w) fun v hv => by
  obtain ⟨g, hg, e, _⟩ := mem_entL hv
  exact hn g hg e
end Go.Proofs.YtppodkkefegbkaaGreatDoor
namespace Go.Proofs.YtppodkkefegbkaaGreatDoor
open Go.RowKit Go.Lib Go.Sort
theorem heldN_hold {k : ByteArray} (h : k = kHold) (a n : Int) : heldN k a n = a + n := by unfold heldN; rw [if_pos h]
theorem heldN_free {k : ByteArray} (h : k = kFree) (a n : Int) : heldN k a n = a - n := by unfold heldN; rw [if_neg (by rw [h]; decide), if_pos h]
theorem heldN_else {k : ByteArray} (h1 : k ≠ kHold) (h2 : k ≠ kFree) (a n : Int) : heldN k a n = a := by unfold heldN; rw [if_neg h1, if_neg h2]
theorem heldAfter_any (a : Int) (e : En) (w : World) (ha : 0 ≤ a ∧ a ≤ 1099511627776) (hn : 1 ≤ e.2.2.2.2.2 ∧ e.2.2.2.2.2 ≤ 1099511627776) :
  Calls Tryz.prog 69 #[.int .i64 a, agE e] w fun r w' => r = .returned (.int .i64 (heldN e.1 a e.2.2.2.2.2)) ∧ Below w.heap.size w w' := by
 have hE := BlkE.new w e
 have hb : Below w.heap.size w (w.alloc (celE e)) := (Below.refl _ w).alloc (Nat.le_refl _) _
 obtain ⟨a1, a2⟩ := ha
 obtain ⟨n1, n2⟩ := hn
 have c0 := hE.at.c0
 have c13 := hE.at.c13
 have HB : Hid (Below _ _ _) := hb
 clear hE hb
 by_cases h1 : e.1 = kHold
 ·rw [heldN_hold h1]
  have x1 : (e.1.toList == kHold.data.toList) = true := same_wordR h1
  clear h1
  obtain ⟨ak, ⟨agc, agp⟩, ⟨ali, alc, alu, alk⟩, ⟨afz, afr, afb⟩, ⟨atz, atr, atb⟩, an⟩ := e
  unfold agE celE at *
  simp only at *
  go_enter Tryz.func69, Tryz.ntmps69
  go_wp2
  go_ret
  exact ⟨rfl, HB.out⟩
 ·have x1 : (e.1.toList == kHold.data.toList) = false := other_word h1
  by_cases h2 : e.1 = kFree
  ·rw [heldN_free h2]
   have x2 : (e.1.toList == kFree.data.toList) = true := same_wordR h2
   clear h1 h2
   obtain ⟨ak, ⟨agc, agp⟩, ⟨ali, alc, alu, alk⟩, ⟨afz, afr, afb⟩, ⟨atz, atr, atb⟩, an⟩ := e
   unfold agE celE at *
   simp only at *
   go_enter Tryz.func69, Tryz.ntmps69
   go_wp2
   go_ret
   exact ⟨rfl, HB.out⟩
  ·rw [heldN_else h1 h2]
   have x2 : (e.1.toList == kFree.data.toList) = false := other_word h2
   clear h1 h2
   obtain ⟨ak, ⟨agc, agp⟩, ⟨ali, alc, alu, alk⟩, ⟨afz, afr, afb⟩, ⟨atz, atr, atb⟩, an⟩ := e
   unfold agE celE at *
   simp only at *
   go_enter Tryz.func69, Tryz.ntmps69
   go_wp2
   go_ret
   exact ⟨rfl, HB.out⟩
def max4 (a b c d : Int) : Int := (let m := if b > a then b else a; let n := if c > m then c else m; if d > n then d else n)
theorem max4_le (a b c d : Int) : decide (max4 a b c d ≤ mostS) = okSu (a, b, c, d) := by
 unfold max4 okSu
 simp only
 generalize mostS = M
 have e : ((if d > (if c > (if b > a then b else a) then c else (if b > a then b else a)) then d else (if c > (if b > a then b else a) then c else (if b > a then b else a))) ≤ M) ↔ (a ≤ M ∧ b ≤ M ∧ c ≤ M ∧ d ≤ M) := by
  repeat' split
  all_goals omega
 rw [Bool.eq_iff_iff]
 simp only [decide_eq_true_eq, Bool.and_eq_true]
 exact e
theorem well_any (u : Su) (w : World) : Calls Tryz.prog 72 #[agU u] w fun r w' => r = .returned (.bool (okSu u)) ∧ Below w.heap.size w w' := by
 obtain ⟨a, b, c, d⟩ := u
 unfold agU
 simp only
 have hb : Below w.heap.size w (w.alloc (.cells #[.int .i64 a, .int .i64 b, .int .i64 c, .int .i64 d] 68)) := (Below.refl _ w).alloc (Nat.le_refl _) _
 have HB : Hid (Below _ _ _) := hb
 have hmx : ∀ W, (Builtin.max_ #[3, 3, 3, 3] 3 #[.int .i64 a, .int .i64 b, .int .i64 c, .int .i64 d]).run Tryz.prog W = .ok (.int .i64 (max4 a b c d)) W := fun W => by simp [Builtin.max_, Builtin.max2, max4]
 rw [← max4_le]
 unfold mostS
 generalize max4 a b c d = m at *
 clear hb
 by_cases hm : m ≤ 65970697666560
 ·rw [decide_eq_true hm]
  go_enter Tryz.func72, Tryz.ntmps72
  go_wp2
  go_ret
  exact ⟨rfl, HB.out⟩
 ·rw [decide_eq_false hm]
  go_enter Tryz.func72, Tryz.ntmps72
  go_wp2
  go_ret
  exact ⟨rfl, HB.out⟩
theorem sums_in {k : ByteArray} (h : k = kIn) (s : Su) (n : Int) : addSu k s n = (s.1 + n, s.2.1, s.2.2.1, s.2.2.2) := by unfold addSu; rw [if_pos h]
theorem sums_more {k : ByteArray} (h : k = kMore) (s : Su) (n : Int) : addSu k s n = (s.1, s.2.1, s.2.2.1 + n, s.2.2.2) := by unfold addSu; rw [if_neg (by rw [h]; decide), if_pos h]
theorem sums_out {k : ByteArray} (h : k = kOut) (s : Su) (n : Int) : addSu k s n = (s.1, s.2.1 + n, s.2.2.1, s.2.2.2) := by unfold addSu; rw [if_neg (by rw [h]; decide), if_neg (by rw [h]; decide), if_pos h]
theorem sums_less {k : ByteArray} (h : k = kLess) (s : Su) (n : Int) : addSu k s n = (s.1, s.2.1, s.2.2.1, s.2.2.2 + n) := by unfold addSu; rw [if_neg (by rw [h]; decide), if_neg (by rw [h]; decide), if_neg (by rw [h]; decide), if_pos h]
theorem sums_else {k : ByteArray} (h1 : k ≠ kIn) (h2 : k ≠ kMore) (h3 : k ≠ kOut) (h4 : k ≠ kLess) (s : Su) (n : Int) : addSu k s n = s := by unfold addSu; rw [if_neg h1, if_neg h2, if_neg h3, if_neg h4]
theorem sumsAfter_in (u : Su) (e : En) (w : World) (hk : e.1 = kIn) (hu : (0 ≤ u.1 ∧ 0 ≤ u.2.1 ∧ 0 ≤ u.2.2.1 ∧ 0 ≤ u.2.2.2) ∧ okSu u = true) (hn : 1 ≤ e.2.2.2.2.2 ∧ e.2.2.2.2.2 ≤ 1099511627776) :
  Calls Tryz.prog 71 #[agU u, agE e] w fun r w' => r = .returned (agU (addSu e.1 u e.2.2.2.2.2)) ∧ Below w.heap.size w w' := by
 obtain ⟨⟨u1, u2, u3, u4⟩, u5⟩ := hu
 have u5' : (u.1 ≤ mostS ∧ u.2.1 ≤ mostS ∧ u.2.2.1 ≤ mostS ∧ u.2.2.2 ≤ mostS) := by unfold okSu at u5; simpa using u5
 obtain ⟨u6, u7, u8, u9⟩ := u5'
 unfold mostS at *
 obtain ⟨n1, n2⟩ := hn
 rw [sums_in hk]
 have xin : (e.1.toList == kIn.data.toList) = true := same_wordR hk
 clear hk u5
 obtain ⟨a, b, c, d⟩ := u
 obtain ⟨ak, ⟨agc, agp⟩, ⟨ali, alc, alu, alk⟩, ⟨afz, afr, afb⟩, ⟨atz, atr, atb⟩, an⟩ := e
 unfold agE agU at *
 simp only at *
 go_enter Tryz.func71, Tryz.ntmps71
 go_wp2
 refine bodyPost_ret (v := .agg #[.int .i64 (a + an), .int .i64 (b), .int .i64 (c), .int .i64 (d)]) (by simp [results, Tryz.results71, go_sem]) rfl ⟨rfl, ?_⟩
 exact (((Below.refl _ w).alloc (Nat.le_refl _) _).alloc (by simp) _).alloc (by simp; omega) _
theorem sumsAfter_out (u : Su) (e : En) (w : World) (hk : e.1 = kOut) (hu : (0 ≤ u.1 ∧ 0 ≤ u.2.1 ∧ 0 ≤ u.2.2.1 ∧ 0 ≤ u.2.2.2) ∧ okSu u = true) (hn : 1 ≤ e.2.2.2.2.2 ∧ e.2.2.2.2.2 ≤ 1099511627776) :
  Calls Tryz.prog 71 #[agU u, agE e] w fun r w' => r = .returned (agU (addSu e.1 u e.2.2.2.2.2)) ∧ Below w.heap.size w w' := by
 obtain ⟨⟨u1, u2, u3, u4⟩, u5⟩ := hu
 have u5' : (u.1 ≤ mostS ∧ u.2.1 ≤ mostS ∧ u.2.2.1 ≤ mostS ∧ u.2.2.2 ≤ mostS) := by unfold okSu at u5; simpa using u5
 obtain ⟨u6, u7, u8, u9⟩ := u5'
 unfold mostS at *
 obtain ⟨n1, n2⟩ := hn
 rw [sums_out hk]
 have xin : (e.1.toList == kIn.data.toList) = false := other_word (by rw [hk]; decide)
 have xout : (e.1.toList == kOut.data.toList) = true := same_wordR hk
 clear hk u5
 obtain ⟨a, b, c, d⟩ := u
 obtain ⟨ak, ⟨agc, agp⟩, ⟨ali, alc, alu, alk⟩, ⟨afz, afr, afb⟩, ⟨atz, atr, atb⟩, an⟩ := e
 unfold agE agU at *
 simp only at *
 go_enter Tryz.func71, Tryz.ntmps71
 go_wp2
 refine bodyPost_ret (v := .agg #[.int .i64 (a), .int .i64 (b + an), .int .i64 (c), .int .i64 (d)]) (by simp [results, Tryz.results71, go_sem]) rfl ⟨rfl, ?_⟩
 exact (((Below.refl _ w).alloc (Nat.le_refl _) _).alloc (by simp) _).alloc (by simp; omega) _
theorem sumsAfter_more (u : Su) (e : En) (w : World) (hk : e.1 = kMore) (hu : (0 ≤ u.1 ∧ 0 ≤ u.2.1 ∧ 0 ≤ u.2.2.1 ∧ 0 ≤ u.2.2.2) ∧ okSu u = true) (hn : 1 ≤ e.2.2.2.2.2 ∧ e.2.2.2.2.2 ≤ 1099511627776) :
  Calls Tryz.prog 71 #[agU u, agE e] w fun r w' => r = .returned (agU (addSu e.1 u e.2.2.2.2.2)) ∧ Below w.heap.size w w' := by
 obtain ⟨⟨u1, u2, u3, u4⟩, u5⟩ := hu
 have u5' : (u.1 ≤ mostS ∧ u.2.1 ≤ mostS ∧ u.2.2.1 ≤ mostS ∧ u.2.2.2 ≤ mostS) := by unfold okSu at u5; simpa using u5
 obtain ⟨u6, u7, u8, u9⟩ := u5'
 unfold mostS at *
 obtain ⟨n1, n2⟩ := hn
 rw [sums_more hk]
 have xin : (e.1.toList == kIn.data.toList) = false := other_word (by rw [hk]; decide)
 have xout : (e.1.toList == kOut.data.toList) = false := other_word (by rw [hk]; decide)
 have xmore : (e.1.toList == kMore.data.toList) = true := same_wordR hk
 clear hk u5
 obtain ⟨a, b, c, d⟩ := u
 obtain ⟨ak, ⟨agc, agp⟩, ⟨ali, alc, alu, alk⟩, ⟨afz, afr, afb⟩, ⟨atz, atr, atb⟩, an⟩ := e
 unfold agE agU at *
 simp only at *
 go_enter Tryz.func71, Tryz.ntmps71
 go_wp2
 refine bodyPost_ret (v := .agg #[.int .i64 (a), .int .i64 (b), .int .i64 (c + an), .int .i64 (d)]) (by simp [results, Tryz.results71, go_sem]) rfl ⟨rfl, ?_⟩
 exact (((Below.refl _ w).alloc (Nat.le_refl _) _).alloc (by simp) _).alloc (by simp; omega) _
theorem sumsAfter_less (u : Su) (e : En) (w : World) (hk : e.1 = kLess) (hu : (0 ≤ u.1 ∧ 0 ≤ u.2.1 ∧ 0 ≤ u.2.2.1 ∧ 0 ≤ u.2.2.2) ∧ okSu u = true) (hn : 1 ≤ e.2.2.2.2.2 ∧ e.2.2.2.2.2 ≤ 1099511627776) :
  Calls Tryz.prog 71 #[agU u, agE e] w fun r w' => r = .returned (agU (addSu e.1 u e.2.2.2.2.2)) ∧ Below w.heap.size w w' := by
 obtain ⟨⟨u1, u2, u3, u4⟩, u5⟩ := hu
 have u5' : (u.1 ≤ mostS ∧ u.2.1 ≤ mostS ∧ u.2.2.1 ≤ mostS ∧ u.2.2.2 ≤ mostS) := by unfold okSu at u5; simpa using u5
 obtain ⟨u6, u7, u8, u9⟩ := u5'
 unfold mostS at *
 obtain ⟨n1, n2⟩ := hn
 rw [sums_less hk]
 have xin : (e.1.toList == kIn.data.toList) = false := other_word (by rw [hk]; decide)
 have xout : (e.1.toList == kOut.data.toList) = false := other_word (by rw [hk]; decide)
 have xmore : (e.1.toList == kMore.data.toList) = false := other_word (by rw [hk]; decide)
 have xless : (e.1.toList == kLess.data.toList) = true := same_wordR hk
 clear hk u5
 obtain ⟨a, b, c, d⟩ := u
 obtain ⟨ak, ⟨agc, agp⟩, ⟨ali, alc, alu, alk⟩, ⟨afz, afr, afb⟩, ⟨atz, atr, atb⟩, an⟩ := e
 unfold agE agU at *
 simp only at *
 go_enter Tryz.func71, Tryz.ntmps71
 go_wp2
 refine bodyPost_ret (v := .agg #[.int .i64 (a), .int .i64 (b), .int .i64 (c), .int .i64 (d + an)]) (by simp [results, Tryz.results71, go_sem]) rfl ⟨rfl, ?_⟩
 exact (((Below.refl _ w).alloc (Nat.le_refl _) _).alloc (by simp) _).alloc (by simp; omega) _
theorem sumsAfter_else (u : Su) (e : En) (w : World) (h1 : e.1 ≠ kIn) (h2 : e.1 ≠ kMore) (h3 : e.1 ≠ kOut) (h4 : e.1 ≠ kLess)  :
  Calls Tryz.prog 71 #[agU u, agE e] w fun r w' => r = .returned (agU (addSu e.1 u e.2.2.2.2.2)) ∧ Below w.heap.size w w' := by
 rw [sums_else h1 h2 h3 h4]
 have xin : (e.1.toList == kIn.data.toList) = false := other_word h1
 have xout : (e.1.toList == kOut.data.toList) = false := other_word h3
 have xmore : (e.1.toList == kMore.data.toList) = false := other_word h2
 have xless : (e.1.toList == kLess.data.toList) = false := other_word h4
 clear h1 h2 h3 h4
 obtain ⟨a, b, c, d⟩ := u
 obtain ⟨ak, ⟨agc, agp⟩, ⟨ali, alc, alu, alk⟩, ⟨afz, afr, afb⟩, ⟨atz, atr, atb⟩, an⟩ := e
 unfold agE agU at *
 simp only at *
 go_enter Tryz.func71, Tryz.ntmps71
 go_wp2
 refine bodyPost_ret (v := .agg #[.int .i64 (a), .int .i64 (b), .int .i64 (c), .int .i64 (d)]) (by simp [results, Tryz.results71, go_sem]) rfl ⟨rfl, ?_⟩
 exact (((Below.refl _ w).alloc (Nat.le_refl _) _).alloc (by simp) _).alloc (by simp; omega) _
theorem sumsAfter_any (u : Su) (e : En) (w : World) (hu : (0 ≤ u.1 ∧ 0 ≤ u.2.1 ∧ 0 ≤ u.2.2.1 ∧ 0 ≤ u.2.2.2) ∧ okSu u = true) (hn : 1 ≤ e.2.2.2.2.2 ∧ e.2.2.2.2.2 ≤ 1099511627776) :
  Calls Tryz.prog 71 #[agU u, agE e] w fun r w' => r = .returned (agU (addSu e.1 u e.2.2.2.2.2)) ∧ Below w.heap.size w w' := by
 by_cases h1 : e.1 = kIn
 ·exact sumsAfter_in u e w h1 hu hn
 by_cases h2 : e.1 = kMore
 ·exact sumsAfter_more u e w h2 hu hn
 by_cases h3 : e.1 = kOut
 ·exact sumsAfter_out u e w h3 hu hn
 by_cases h4 : e.1 = kLess
 ·exact sumsAfter_less u e w h4 hu hn
 exact sumsAfter_else u e w h1 h2 h3 h4
end Go.Proofs.YtppodkkefegbkaaGreatDoor
namespace Go.Proofs.YtppodkkefegbkaaGreatDoor
open Go.RowKit Go.Lib Go.Sort
open Go.Maps (Keyed)
theorem addG_exist (g : Gd) (w : World) (s : Nat → Addr) (B : Nat) (x : Bl) (b : Bk) (h : IsBk w B x b) (hz : g.1.size ≤ maxLen) (hs : Bs w s) (y : Gs) (hy : y ∈ b.1) (hyg : nameG y = g.1) :
  Calls Tryz.prog 35 #[.pointer (some ⟨x.p, 0, none⟩), agG g] w fun e w' => e = .returned (errP s 7) ∧ IsBk w' B x b ∧ Off x.all w w' := by
 obtain ⟨gc, gp⟩ := g
 simp only at hz hyg
 unfold agG
 simp only
 have hb1 : Below w.heap.size w (w.alloc (.cells #[.string gc, .int .i64 gp] 37)) := (Below.refl _ w).alloc (Nat.le_refl _) _
 have n1 := heap_alloc_new w (.cells #[.string gc, .int .i64 gp] 37)
 obtain ⟨ps, bs, h⟩ := h
 have h1 := h.all hb1
 have hs1 := hs.below hb1
 have hq := h1.drew.askG_yes hz hy hyg
 obtain ⟨W, hW⟩ : ∃ W, w.alloc (.cells #[.string gc, .int .i64 gp] 37) = W := ⟨_, rfl⟩
 rw [hW] at hb1 n1 h1 hs1 hq
 obtain ⟨c0, _⟩ := h1.cells
 have c1 : W.cell? ⟨w.heap.size, 0, none⟩ = some (.string gc) := by rw [cell_of_heap n1]; rfl
 obtain ⟨⟨yc, yp⟩, ys⟩ := y
 simp only at hq
 obtain ⟨V1, V2, V3, e1, e2, e3, ⟨k1, k2, k3⟩, ⟨k4, k5⟩, _, kb1, kb2, kb3⟩ := boxed2 W.drew (.string ⟨#[]⟩) (.int .i64 0) (.string yc) (.int .i64 yp) 37
 have zd : W.drew.heap.size = W.heap.size := rfl
 rw [zd] at e2 e3 k1 k2 k3 k4 k5
 have hbW : Below w.heap.size w V1 := hb1.trans (((Below.refl _ W).drew.trans (kb1.mono (Nat.le_refl _))).mono hb1.size)
 have hq1 := (h.all hbW).askG_yes hz hy hyg
 simp only at hq1
 obtain ⟨c2, _⟩ := (h.all hbW).cells
 have c3 : V1.cell? ⟨w.heap.size, 0, none⟩ = some (.string gc) := (kb1.cell (p := ⟨w.heap.size, 0, none⟩) (cell_lt c1)).trans c1
 have hbV : Below w.heap.size w V3 := hb1.trans (((Below.refl _ W).drew.trans (kb3.mono (Nat.le_refl _))).mono hb1.size)
 have hsV : V3.cell? ⟨2, 0, none⟩ = some (err (s 6)) := (hs.below hbV).exist
 have HF : Hid (IsBk V3 B x b ∧ Off x.all w V3) := ⟨⟨ps, bs, h.all hbV⟩, Off.of_below hbV⟩
 clear kb1 kb2 kb3 hbV hbW hs1 h1 hb1 n1 h hs zd
 go_enter Tryz.func35, Tryz.ntmps35
 go_wp2
 go_region
 go_wp2
 go_ret
 exact ⟨rfl, HF.out⟩
theorem BkAt.apart {w : World} {B : Nat} {x : Bl} {ps bs : Nat} {b : Bk} (h : BkAt w B x ps bs b) : (x.p ≠ x.g ∧ x.p ≠ x.u ∧ x.p ≠ x.l ∧ x.p ≠ x.h ∧ x.p ≠ bs) ∧ (ps ≠ x.g ∧ ps ≠ x.u ∧ ps ≠ x.l ∧ ps ≠ x.h) ∧ (x.g ≠ x.u ∧ x.g ≠ x.l ∧ x.g ≠ x.h ∧ x.g ≠ bs ∧ x.u ≠ x.l ∧ x.u ≠ x.h ∧ x.u ≠ bs ∧ x.l ≠ x.h ∧ x.l ≠ bs ∧ x.h ≠ bs) := by
 obtain ⟨c0, _⟩ := h.cells
 have := h.gu; have := h.ul; have := h.lh; have := h.hs
 exact ⟨⟨h.G.ne_of_cells c0, h.U.ne_of_cells c0, h.L.ne_of_cells c0, h.H.ne_of_cells c0, h.S.map.ne_of_cells c0⟩, ⟨h.G.ne_of_cells h.S.cell, h.U.ne_of_cells h.S.cell, h.L.ne_of_cells h.S.cell, h.H.ne_of_cells h.S.cell⟩, by omega⟩
theorem BkAt.goods {V W : World} {B : Nat} {x : Bl} {ps bs : Nat} {b : Bk} (h : BkAt V B x ps bs b) {g : Gd} (h0 : goodsE b g = 0) (hg : MapL Tryz.prog 9 W x.g ((insC nameG b.1 (g, zeroSu)).map entG)) (hu : MapL Tryz.prog 9 W x.u ((insC nameG b.1 (g, zeroSu)).map entU)) (hk : ∀ c, c ≠ x.g → c ≠ x.u → W.heap[c]? = V.heap[c]?) : BkAt W B x ps bs (goodsB b g) := by
 obtain ⟨⟨a1, a2, a3, a4, a5⟩, ⟨a6, a7, a8, a9⟩, d1, d2, d3, d4, d5, d6, d7, d8, d9, d10⟩ := h.apart
 exact { blk := (hk _ a1 a2).trans h.blk, G := hg, U := hu, L := h.L.of_block (hk _ d2.symm d5.symm), H := h.H.of_block (hk _ d3.symm d6.symm), sblk := (hk _ a6 a7).trans h.sblk, S := h.S.of_blocks (hk _ a6 a7) (hk _ d4.symm d7.symm), ok := h.ok.goods h0, bp := h.bp, bg := h.bg, gu := h.gu, ul := h.ul, lh := h.lh, hs := h.hs, bs := h.bs }
theorem addG_full (g : Gd) (w : World) (s : Nat → Addr) (B : Nat) (x : Bl) (b : Bk) (h : IsBk w B x b) (hz : g.1.size ≤ maxLen) (hs : Bs w s) (hn : ∀ y ∈ b.1, nameG y ≠ g.1) (hf : 30 ≤ b.1.length) :
  Calls Tryz.prog 35 #[.pointer (some ⟨x.p, 0, none⟩), agG g] w fun e w' => e = .returned (errP s 8) ∧ IsBk w' B x b ∧ Off x.all w w' := by
 obtain ⟨gc, gp⟩ := g
 simp only at hz hn
 unfold agG
 simp only
 have hb1 : Below w.heap.size w (w.alloc (.cells #[.string gc, .int .i64 gp] 37)) := (Below.refl _ w).alloc (Nat.le_refl _) _
 have n1 := heap_alloc_new w (.cells #[.string gc, .int .i64 gp] 37)
 obtain ⟨ps, bs, h⟩ := h
 have h1 := h.all hb1
 have hq := h1.drew.askG_no hz hn
 obtain ⟨W, hW⟩ : ∃ W, w.alloc (.cells #[.string gc, .int .i64 gp] 37) = W := ⟨_, rfl⟩
 rw [hW] at hb1 n1 h1 hq
 obtain ⟨c0, _⟩ := h1.cells
 have c1 : W.cell? ⟨w.heap.size, 0, none⟩ = some (.string gc) := by rw [cell_of_heap n1]; rfl
 obtain ⟨V1, V2, V3, e1, e2, e3, ⟨k1, k2, k3⟩, ⟨k4, k5⟩, _, kb1, kb2, kb3⟩ := boxed2 W.drew (.string ⟨#[]⟩) (.int .i64 0) (.string ⟨#[]⟩) (.int .i64 0) 37
 have zd : W.drew.heap.size = W.heap.size := rfl
 rw [zd] at e2 e3 k1 k2 k3 k4 k5
 have hbW : Below w.heap.size w V1 := hb1.trans (((Below.refl _ W).drew.trans (kb1.mono (Nat.le_refl _))).mono hb1.size)
 have hq1 := (h.all hbW).askG_no hz hn
 obtain ⟨c2, _⟩ := (h.all hbW).cells
 have c3 : V1.cell? ⟨w.heap.size, 0, none⟩ = some (.string gc) := (kb1.cell (p := ⟨w.heap.size, 0, none⟩) (cell_lt c1)).trans c1
 have hbV : Below w.heap.size w V3 := hb1.trans (((Below.refl _ W).drew.trans (kb3.mono (Nat.le_refl _))).mono hb1.size)
 have hsV : V3.cell? ⟨3, 0, none⟩ = some (err (s 7)) := (hs.below hbV).five.full
 have hm := (h.all hbV).G
 obtain ⟨ln, hln⟩ : ∃ ln, (b.1.map entG).length = ln := ⟨_, rfl⟩
 have hl30 : 30 ≤ ln := by rw [← hln]; simpa using hf
 have hl99 : ln ≤ 30 := by rw [← hln]; simpa using h.ok.wf.gl
 obtain ⟨c4, _⟩ := (h.all hbV).cells
 have HF : Hid (IsBk V3 B x b ∧ Off x.all w V3) := ⟨⟨ps, bs, h.all hbV⟩, Off.of_below hbV⟩
 clear kb1 kb2 kb3 hbV hbW h1 hb1 n1 h hs zd hf
 go_enter Tryz.func35, Tryz.ntmps35
 go_wp2
 go_region
 go_wp2_with (at_len; refine wpL_len rfl _ 87 rfl 9 37 Tryz.underlying87 x.g _ ln hln rfl hm ?_)
 go_ret
 exact ⟨rfl, HF.out⟩
theorem addG_ok (g : Gd) (w : World) (s : Nat → Addr) (B : Nat) (x : Bl) (b : Bk) (h : IsBk w B x b) (hz : g.1.size ≤ maxLen) (hn : ∀ y ∈ b.1, nameG y ≠ g.1) (hf : b.1.length < 30) (h0 : goodsE b g = 0) :
  Calls Tryz.prog 35 #[.pointer (some ⟨x.p, 0, none⟩), agG g] w fun e w' => e = .returned (errP s 0) ∧ IsBk w' B x (goodsB b g) ∧ Off x.all w w' := by
 obtain ⟨gc, gp⟩ := g
 simp only at hz hn
 unfold agG
 simp only
 have hb1 : Below w.heap.size w (w.alloc (.cells #[.string gc, .int .i64 gp] 37)) := (Below.refl _ w).alloc (Nat.le_refl _) _
 have n1 := heap_alloc_new w (.cells #[.string gc, .int .i64 gp] 37)
 obtain ⟨ps, bs, h⟩ := h
 have h1 := h.all hb1
 have hq := h1.drew.askG_no hz hn
 obtain ⟨W, hW⟩ : ∃ W, w.alloc (.cells #[.string gc, .int .i64 gp] 37) = W := ⟨_, rfl⟩
 rw [hW] at hb1 n1 h1 hq
 obtain ⟨c0, _⟩ := h1.cells
 have c1 : W.cell? ⟨w.heap.size, 0, none⟩ = some (.string gc) := by rw [cell_of_heap n1]; rfl
 obtain ⟨V1, V2, V3, e1, e2, e3, ⟨k1, k2, k3⟩, ⟨k4, k5⟩, _, kb1, kb2, kb3⟩ := boxed2 W.drew (.string ⟨#[]⟩) (.int .i64 0) (.string ⟨#[]⟩) (.int .i64 0) 37
 have zd : W.drew.heap.size = W.heap.size := rfl
 rw [zd] at e2 e3 k1 k2 k3 k4 k5
 have hbW : Below w.heap.size w V1 := hb1.trans (((Below.refl _ W).drew.trans (kb1.mono (Nat.le_refl _))).mono hb1.size)
 have hq1 := (h.all hbW).askG_no hz hn
 obtain ⟨c2, _⟩ := (h.all hbW).cells
 have c3 : V1.cell? ⟨w.heap.size, 0, none⟩ = some (.string gc) := (kb1.cell (p := ⟨w.heap.size, 0, none⟩) (cell_lt c1)).trans c1
 have hbV : Below w.heap.size w V3 := hb1.trans (((Below.refl _ W).drew.trans (kb3.mono (Nat.le_refl _))).mono hb1.size)
 have n3 : V3.heap[w.heap.size]? = some (.cells #[.string gc, .int .i64 gp] 37 (0, 0)) := (kb3.block _ (Array.getElem?_eq_some_iff.1 n1).1).trans n1
 have h3 := h.all hbV
 have hm := h3.G
 obtain ⟨ln, hln⟩ : ∃ ln, (b.1.map entG).length = ln := ⟨_, rfl⟩
 have hl30 : ln < 30 := by rw [← hln]; simpa using hf
 obtain ⟨c4, _⟩ := h3.cells
 obtain ⟨⟨a1, a2, a3, a4, a5⟩, ⟨a6, a7, a8, a9⟩, d1, d2, d3, d4, d5, d6, d7, d8, d9, d10⟩ := h.apart
 have hpG := ((insC_perm nameG b.1 ((gc, gp), zeroSu)).map entG).symm
 have hpU := ((insC_perm nameG b.1 ((gc, gp), zeroSu)).map entU).symm
 have E1 : EntSt Tryz.prog 9 87 V3.drew x.g (.string gc) (.agg #[.string gc, .int .i64 gp]) ((insC nameG b.1 ((gc, gp), zeroSu)).map entG) :=
  EntSt.new Tryz.keyedS Tryz.underlying87 (keyS hz) (h3.G.of_block (w' := V3.drew) rfl) Tryz.zeroValue37 (fun v hv => by obtain ⟨y, hy, e, _⟩ := mem_entG hv; exact hn y hy e) _ hpG
 have E2 : ∀ V, MapL Tryz.prog 9 V x.u (b.1.map entU) → EntSt Tryz.prog 9 88 V x.u (.string gc) (.agg #[.int .i64 0, .int .i64 0, .int .i64 0, .int .i64 0]) ((insC nameG b.1 ((gc, gp), zeroSu)).map entU) := fun V hV =>
  EntSt.new Tryz.keyedS Tryz.underlying88 (keyS hz) hV Tryz.zeroValue68 (fun v hv => by obtain ⟨y, hy, e, _⟩ := mem_entU hv; exact hn y hy e) _ hpU
 obtain ⟨st, z, w2, w3, st', z', w4, w5, r1, r2, r3, r4, r5, r6, r7, r8⟩ := two_ents E1 (h3.U.of_block (w' := V3.drew) rfl) E2 d1
 have n3d : V3.drew.heap[w.heap.size]? = some (.cells #[.string gc, .int .i64 gp] 37 (0, 0)) := n3
 have nq : w.heap.size ≠ x.g ∧ w.heap.size ≠ x.u := by have := h.lts; omega
 obtain ⟨o2, o3, o4, o5⟩ := r7 _ nq.1 nq.2
 obtain ⟨p2, p3, p4, p5⟩ := r7 _ a1 a2
 have x0 : V3.drew.cell? ⟨w.heap.size, 0, none⟩ = some (.string gc) := by rw [cell_of_heap n3d]; rfl
 have x1 : V3.drew.cell? ⟨w.heap.size, 1, none⟩ = some (.int .i64 gp) := by rw [cell_of_heap n3d]; rfl
 have x2 : w2.cell? ⟨w.heap.size, 0, none⟩ = some (.string gc) := by rw [cell_of_heap (o2.trans n3d)]; rfl
 have x3 : w2.cell? ⟨w.heap.size, 1, none⟩ = some (.int .i64 gp) := by rw [cell_of_heap (o2.trans n3d)]; rfl
 have x4 : w3.cell? ⟨w.heap.size, 0, none⟩ = some (.string gc) := by rw [cell_of_heap (o3.trans n3d)]; rfl
 have x5 : w3.cell? ⟨w.heap.size, 1, none⟩ = some (.int .i64 gp) := by rw [cell_of_heap (o3.trans n3d)]; rfl
 have hd := h3.drew.blk
 have y0 : V3.drew.cell? ⟨x.p, 0, none⟩ = some (.map (some x.g)) := by rw [cell_of_heap hd]; rfl
 have y1 : V3.drew.cell? ⟨x.p, 1, none⟩ = some (.map (some x.u)) := by rw [cell_of_heap hd]; rfl
 have y2 : w2.cell? ⟨x.p, 1, none⟩ = some (.map (some x.u)) := by rw [cell_of_heap (p2.trans hd)]; rfl
 have y3 : w3.cell? ⟨x.p, 1, none⟩ = some (.map (some x.u)) := by rw [cell_of_heap (p3.trans hd)]; rfl
 have HF : Hid (IsBk w5 B x (goodsB b (gc, gp)) ∧ Off x.all w w5) := by
  refine ⟨⟨ps, bs, h3.drew.goods h0 r5 r6 fun c h1 h2 => (r7 c h1 h2).2.2.2⟩, ?_⟩
  have q1 : Off x.all w V3.drew := Off.of_below hbV.drew
  exact q1.trans (r8.mono (by simp [Bl.all]))
 clear kb1 kb2 kb3 hbV hbW h1 hb1 n1 h zd hf r5 r6 r7 r8 E1 E2 hpG hpU h3 hd p2 p3 p4 p5 o2 o3 o4 o5 n3 n3d hn
 go_enter Tryz.func35, Tryz.ntmps35
 go_wp2
 go_region
 go_wp2_with (at_len; refine wpL_len rfl _ 87 rfl 9 37 Tryz.underlying87 x.g _ ln hln rfl hm ?_)
 go_region
 go_wp2
 go_ret
 exact ⟨rfl, HF.out⟩
end Go.Proofs.YtppodkkefegbkaaGreatDoor
