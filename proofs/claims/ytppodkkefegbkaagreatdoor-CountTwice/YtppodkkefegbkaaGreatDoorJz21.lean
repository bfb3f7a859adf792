/-
 What checkOwn and entry.Check answer: the number of an entry's error; over every world that holds the sentinels as the program lays them; nothing old is turned.
-/
import Derived.Test.YtppodkkefegbkaaGreatDoorJz13
import Derived.Test.YtppodkkefegbkaaGreatDoorJz9
import Derived.RegionTactic
set_option maxRecDepth 100000
set_option maxHeartbeats 16000000
namespace Go.Proofs.YtppodkkefegbkaaGreatDoor
open Go.RowKit Go.Lib Go.Sort
theorem ownErr_goods {e : En} (h : e.1 = kGoods) : ownErr e = gdErr e.2.1 := by unfold ownErr; rw [h, kd_goods]
theorem ownErr_lot {e : En} (h : e.1 = kLot) : ownErr e = lotErr e.2.2.1 := by unfold ownErr; rw [h, kd_lot]
theorem ownErr_to {e : En} (h : e.1 = kIn ∨ e.1 = kMore) : ownErr e = pieceErr .tow e := by unfold ownErr; rcases h with h | h <;> rw [h] <;> simp only [kd_in, kd_more]
theorem ownErr_from {e : En} (h : e.1 = kOut ∨ e.1 = kLess) : ownErr e = pieceErr .frm e := by unfold ownErr; rcases h with h | h <;> rw [h] <;> simp only [kd_out, kd_less]
theorem ownErr_move {e : En} (h : e.1 = kMove) : ownErr e = pieceErr .move e := by unfold ownErr; rw [h, kd_move]
theorem ownErr_hold {e : En} (h : e.1 = kHold ∨ e.1 = kFree) : ownErr e = pieceErr .hold e := by unfold ownErr; rcases h with h | h <;> rw [h] <;> simp only [kd_hold, kd_free]
theorem ownErr_other {e : En} (h : NoKind e.1) : ownErr e = 4 := by unfold ownErr; rw [h.kd]
theorem pieces_any (e : En) (w : World) (s : Nat → Addr) (hz : SzE e) (hs : Ec w s) (h1 : e.1 ≠ kGoods) (h2 : e.1 ≠ kLot) :
  Calls Tryz.prog 96 #[agE e] w fun r w' => r = .returned (errP s (ownErr e)) ∧ Below w.heap.size w w' := by
 rcases kind_cases e.1 with h | h | h | h | h | h | h
 ·exact absurd h h1
 ·exact absurd h h2
 ·rw [ownErr_to h]; exact cp_to e w s h hz hs
 ·rw [ownErr_from h]; exact cp_from e w s h hz hs
 ·rw [ownErr_move h]; exact cp_move e w s h hz hs
 ·rw [ownErr_hold h]; exact cp_hold e w s h hz hs
 ·rw [ownErr_other h]; exact cp_other e w s h hs
theorem own_goods (e : En) (w : World) (s : Nat → Addr) (hk : e.1 = kGoods) (hz : SzE e) (hs : Ec w s) :
  Calls Tryz.prog 66 #[agE e] w fun r w' => r = .returned (errP s (ownErr e)) ∧ Below w.heap.size w w' := by
 have hB : Below w.heap.size w (w.alloc (celE e)) := (Below.refl _ w).alloc (Nat.le_refl _) _
 have hC := gcheck_any e.2.1 (w.alloc (celE e)) s hz.gc (hs.two.below hB)
 rw [ownErr_goods hk]
 clear hz hs
 generalize errP s (gdErr e.2.1) = V at *
 obtain ⟨k, ⟨gc, gp⟩, ⟨li, lc, lu, lk⟩, ⟨fz, fr, fb⟩, ⟨tz, tr, tb⟩, n⟩ := e
 simp only at hk
 subst hk
 unfold agE celE at *
 simp only at *
 have HC : Hid (Calls Tryz.prog 94 _ _ _) := hC
 clear hC
 go_enter Tryz.func66, Tryz.ntmps66
 go_wp2_with (go_at_call 94; refine HC.out.mono ?_; rintro e w1 ⟨rfl, hb⟩)
 go_ret
 exact ⟨rfl, hB.trans (hb.mono hB.size)⟩
theorem own_lot (e : En) (w : World) (s : Nat → Addr) (hk : e.1 = kLot) (hz : SzE e) (hs : Ec w s) :
  Calls Tryz.prog 66 #[agE e] w fun r w' => r = .returned (errP s (ownErr e)) ∧ Below w.heap.size w w' := by
 have hB : Below w.heap.size w (w.alloc (celE e)) := (Below.refl _ w).alloc (Nat.le_refl _) _
 have hC := lcheck_any e.2.2.1 (w.alloc (celE e)) s hz.li hz.lc (hs.two.below hB)
 rw [ownErr_lot hk]
 clear hz hs
 generalize errP s (lotErr e.2.2.1) = V at *
 obtain ⟨k, ⟨gc, gp⟩, ⟨li, lc, lu, lk⟩, ⟨fz, fr, fb⟩, ⟨tz, tr, tb⟩, n⟩ := e
 simp only at hk
 subst hk
 unfold agE celE agL at *
 simp only at *
 have HC : Hid (Calls Tryz.prog 95 _ _ _) := hC
 clear hC
 go_enter Tryz.func66, Tryz.ntmps66
 go_wp2_with (go_at_call 95; refine HC.out.mono ?_; rintro e w1 ⟨rfl, hb⟩)
 go_ret
 exact ⟨rfl, hB.trans (hb.mono hB.size)⟩
theorem own_pieces (e : En) (w : World) (s : Nat → Addr) (hz : SzE e) (hs : Ec w s) (h1 : e.1 ≠ kGoods) (h2 : e.1 ≠ kLot) :
  Calls Tryz.prog 66 #[agE e] w fun r w' => r = .returned (errP s (ownErr e)) ∧ Below w.heap.size w w' := by
 have hB : Below w.heap.size w (w.alloc (celE e)) := (Below.refl _ w).alloc (Nat.le_refl _) _
 have hC := pieces_any e (w.alloc (celE e)) s hz (hs.below hB) h1 h2
 have e1 := other_word h1
 have e2 := other_word h2
 clear hz hs h1 h2
 generalize errP s (ownErr e) = V at *
 obtain ⟨k, ⟨gc, gp⟩, ⟨li, lc, lu, lk⟩, ⟨fz, fr, fb⟩, ⟨tz, tr, tb⟩, n⟩ := e
 unfold agE celE at *
 simp only at *
 have HC : Hid (Calls Tryz.prog 96 _ _ _) := hC
 clear hC
 go_enter Tryz.func66, Tryz.ntmps66
 go_wp2_with (go_at_call 96; refine HC.out.mono ?_; rintro e w1 ⟨rfl, hb⟩)
 go_ret
 exact ⟨rfl, hB.trans (hb.mono hB.size)⟩
theorem own_any (e : En) (w : World) (s : Nat → Addr) (hz : SzE e) (hs : Ec w s) :
  Calls Tryz.prog 66 #[agE e] w fun r w' => r = .returned (errP s (ownErr e)) ∧ Below w.heap.size w w' := by
 by_cases h1 : e.1 = kGoods
 ·exact own_goods e w s h1 hz hs
 ·by_cases h2 : e.1 = kLot
  ·exact own_lot e w s h2 hz hs
  ·exact own_pieces e w s hz hs h1 h2
theorem others_any (e : En) (w : World) (h : ownErr e ≠ 4) :
  Calls Tryz.prog 67 #[agE e] w fun r w' => r = .returned (agE (othersE e)) ∧ Below w.heap.size w w' := by
 unfold othersE
 rcases kind_cases e.1 with hk | hk | hk | hk | hk | hk | hk
 ·have : kd e.1 = .goods := by rw [hk, kd_goods]
  rw [this]; exact others_goods e w hk
 ·have : kd e.1 = .lot := by rw [hk, kd_lot]
  rw [this]; exact others_lot e w hk
 ·have : kd e.1 = .tow := by rcases hk with hk | hk <;> rw [hk] <;> rfl
  rw [this]; exact others_to e w hk
 ·have : kd e.1 = .frm := by rcases hk with hk | hk <;> rw [hk] <;> rfl
  rw [this]; exact others_from e w hk
 ·have : kd e.1 = .move := by rw [hk, kd_move]
  rw [this]; exact others_move e w hk
 ·have : kd e.1 = .hold := by rcases hk with hk | hk <;> rw [hk] <;> rfl
  rw [this]; exact others_hold e w hk
 ·exact absurd (ownErr_other hk) h
theorem echeck_own (e : En) (w : World) (s : Nat → Addr) (hz : SzE e) (hs : Ec w s) (h : ownErr e ≠ 0) :
  Calls Tryz.prog 34 #[agE e] w fun r w' => r = .returned (errP s (entErr e)) ∧ Below w.heap.size w w' := by
 have hB : Below w.heap.size w (w.alloc (celE e)) := (Below.refl _ w).alloc (Nat.le_refl _) _
 have hC := own_any e (w.alloc (celE e)) s hz (hs.below hB)
 have he : entErr e = ownErr e := by unfold entErr; rw [if_neg h]
 rw [he, errP_pos s h]
 rw [errP_pos s h] at hC
 clear hz hs he h
 generalize s (ownErr e - 1) = ad at *
 obtain ⟨k, ⟨gc, gp⟩, ⟨li, lc, lu, lk⟩, ⟨fz, fr, fb⟩, ⟨tz, tr, tb⟩, n⟩ := e
 unfold agE celE at *
 simp only at *
 have HC : Hid (Calls Tryz.prog 66 _ _ _) := hC
 clear hC
 go_enter Tryz.func34, Tryz.ntmps34
 go_wp2_with (go_at_call 66; refine HC.out.mono ?_; rintro e w1 ⟨rfl, hb⟩)
 go_ret
 exact ⟨rfl, hB.trans (hb.mono hB.size)⟩
theorem echeck_rest (e : En) (w : World) (s : Nat → Addr) (hz : SzE e) (hs : Ec w s) (h : ownErr e = 0) :
  Calls Tryz.prog 34 #[agE e] w fun r w' => r = .returned (errP s (entErr e)) ∧ Below w.heap.size w w' := by
 have hB : Below w.heap.size w (w.alloc (celE e)) := (Below.refl _ w).alloc (Nat.le_refl _) _
 have hE := BlkE.new w e
 have hC := own_any e (w.alloc (celE e)) s hz (hs.below hB)
 rw [h, errP_zero] at hC
 have hO := fun w1 => others_any e w1 (by rw [h]; decide)
 have hQ := fun W => eqE_run (othersE e) zeroE W
 have hG := Tryz.guardE
 have hS := fun w1 (hb : Below w.heap.size w w1) => (hs.below hb).shape
 have he : errP s (entErr e) = if sameE (othersE e) zeroE = true then .nilIface else err (s 2) := by
  unfold entErr; rw [if_pos h]
  cases sameE (othersE e) zeroE <;> rfl
 rw [he]
 clear hz hs he h
 generalize sameE (othersE e) zeroE = D at *
 generalize othersE e = o at *
 obtain ⟨k, ⟨gc, gp⟩, ⟨li, lc, lu, lk⟩, ⟨fz, fr, fb⟩, ⟨tz, tr, tb⟩, n⟩ := e
 obtain ⟨ok, ⟨ogc, ogp⟩, ⟨oli, olc, olu, olk⟩, ⟨ofz, ofr, ofb⟩, ⟨otz, otr, otb⟩, on⟩ := o
 unfold agE at *
 unfold celE at *
 unfold zeroE zeroG zeroL zeroP at hQ
 simp only at *
 have HC : Hid (Calls Tryz.prog 66 _ _ _) := hC
 have HE : Hid (BlkE _ _ _) := hE
 clear hC hE
 cases D
 ·rw [if_neg (by decide)]
  go_enter Tryz.func34, Tryz.ntmps34
  go_wp2_with (first
   | (go_at_call 66; refine HC.out.mono ?_; rintro e w1 ⟨rfl, hb⟩; have hb1 := hB.trans (hb.mono hB.size); obtain ⟨c0, c1, c2, c3, c4, c5, c6, c7, c8, c9, c10, c11, c12, c13⟩ := (HE.out.below hb).at; simp only at c0 c1 c2 c3 c4 c5 c6 c7 c8 c9 c10 c11 c12 c13)
   | (go_at_call 67; refine (hO _).mono ?_; rintro e w2 ⟨rfl, hb2⟩; have hbw := hb1.trans (hb2.mono hb1.size); have hsh := hS _ hbw))
  go_ret
  exact ⟨rfl, hbw⟩
 ·rw [if_pos rfl]
  go_enter Tryz.func34, Tryz.ntmps34
  go_wp2_with (first
   | (go_at_call 66; refine HC.out.mono ?_; rintro e w1 ⟨rfl, hb⟩; have hb1 := hB.trans (hb.mono hB.size); obtain ⟨c0, c1, c2, c3, c4, c5, c6, c7, c8, c9, c10, c11, c12, c13⟩ := (HE.out.below hb).at; simp only at c0 c1 c2 c3 c4 c5 c6 c7 c8 c9 c10 c11 c12 c13)
   | (go_at_call 67; refine (hO _).mono ?_; rintro e w2 ⟨rfl, hb2⟩; have hbw := hb1.trans (hb2.mono hb1.size); have hsh := hS _ hbw))
  go_ret
  exact ⟨rfl, hbw⟩
theorem echeck_any (e : En) (w : World) (s : Nat → Addr) (hz : SzE e) (hs : Ec w s) :
  Calls Tryz.prog 34 #[agE e] w fun r w' => r = .returned (errP s (entErr e)) ∧ Below w.heap.size w w' := by
 by_cases h : ownErr e = 0
 ·exact echeck_rest e w s hz hs h
 ·exact echeck_own e w s hz hs h
end Go.Proofs.YtppodkkefegbkaaGreatDoor
