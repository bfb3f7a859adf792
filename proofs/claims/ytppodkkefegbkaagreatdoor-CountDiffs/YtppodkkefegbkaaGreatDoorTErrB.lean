/-
 What the reference's EntryError answers of an entry of a lot.
-/
import Derived.Test.YtppodkkefegbkaaGreatDoorJz11
set_option maxRecDepth 100000
set_option maxHeartbeats 16000000
namespace Go.Proofs.YtppodkkefegbkaaGreatDoor
open Go.RowKit Go.Lib Go.Sort
theorem terr_lot (e : En) (w : World) (hz : SzE e) (hk : e.1 = kLot) :
  Calls Tryz.prog 60 #[agE e] w fun r w' => r = .returned (.int .i64 (entErr e)) ∧ Below w.heap.size w w' := by
 have hB0 : Below w.heap.size w (w.alloc (celE e)) := (Below.refl _ w).alloc (Nat.le_refl _) _
 have hB1 : Below (w.alloc (celE e)).heap.size (w.alloc (celE e)) ((w.alloc (celE e)).alloc (.cells #[.string ⟨#[]⟩, .int .i64 0, .int .i64 0] 41)) := (Below.refl _ _).alloc (Nat.le_refl _) _
 have hB := hB0.trans (hB1.mono hB0.size)
 have hE := (BlkE.new w e).below hB1
 have hP := BoxAt.new (w.alloc (celE e)) zeroP 41 (w.heap.size + 1) (by simp)
 have hK := fun w => isKind_any e.1 w
 have a3 : isKd e.1 = true := by rw [hk]; decide
 rw [a3] at hK
 have hC := lotError_any e.2.2.1 ((w.alloc (celE e)).alloc (.cells #[.string ⟨#[]⟩, .int .i64 0, .int .i64 0] 41)) hz.li hz.lc
 have ho := ownErr_lotR hk
 have hd : kd e.1 = .lot := by rw [hk]; rfl
 have hg : (e.1.toList == kGoods.data.toList) = false := other_word (by rw [hk]; decide)
 have hl : (e.1.toList == kLot.data.toList) = true := same_wordR hk
 simp only at hl
 simp only at hg
 by_cases h0 : ownErr e = 0
 ·have he : entErr e = if (decide (e.2.1 = zeroG) && (decide (e.2.2.2.1 = zeroP) && (decide (e.2.2.2.2.1 = zeroP) && decide (e.2.2.2.2.2 = 0)))) = true then 0 else 3 := by
   unfold entErr othersE
   rw [if_pos h0, hd]
   unfold othersC sameE zeroE
   simp
  rw [he]
  rw [← ho, h0] at hC
  have q1 := fun W => eqG10 e.2.1 zeroG W
  have q2 := fun W => eqPl10 e.2.2.2.1 zeroP W
  have q3 := fun W => eqPl10 e.2.2.2.2.1 zeroP W
  have g1 := Tryz.guardGo
  have g2 := Tryz.guardPl
  have hN : e.2.2.2.2.2 = 0 ∨ (e.2.2.2.2.2 == 0) = false := by by_cases h : e.2.2.2.2.2 = 0 <;> simp [h]
  have hNd : decide (e.2.2.2.2.2 = 0) = (e.2.2.2.2.2 == 0) := rfl
  rw [hNd]
  generalize decide (e.2.1 = zeroG) = b1 at *
  generalize decide (e.2.2.2.1 = zeroP) = b2 at *
  generalize decide (e.2.2.2.2.1 = zeroP) = b3 at *
  unfold zeroP at *
  unfold zeroG at *
  clear hz hk a3 he ho hd h0 hB0 hB1 hNd
  have HE : Hid (BlkE _ _ _) := hE
  have HP : Hid (BoxAt _ _ _) := hP
  have HC : Hid (Calls Tryz.prog 90 _ _ _) := hC
  have HB : Hid (Below _ _ _) := hB
  clear hE hP hC hB
  obtain ⟨k, ⟨gc, gp⟩, ⟨li, lc, lu, lk⟩, ⟨fz, fr, fb⟩, ⟨tz, tr, tb⟩, n⟩ := e
  unfold agE celE agL at *
  simp only at *
  rcases hN with rfl | hN
  ·cases b1 <;> cases b2 <;> cases b3
   all_goals
    go_enter Tryz.func60, Tryz.ntmps60
    go_wp2_with (first
     | (go_at_call 88; refine (hK _).mono ?_; rintro e w1 ⟨rfl, rfl⟩)
     | (go_at_call 90; refine HC.out.mono ?_; rintro e w2 ⟨rfl, hb2⟩; have hbw := HB.out.trans (hb2.mono HB.out.size); obtain ⟨c0, c1, c2, c3, c4, c5, c6, c7, c8, c9, c10, c11, c12, c13⟩ := (HE.out.below hb2).at; obtain ⟨p0, p1, p2⟩ := HP.out.below hb2; simp only at c0 c1 c2 c3 c4 c5 c6 c7 c8 c9 c10 c11 c12 c13 p0 p1 p2))
    go_ret
    exact ⟨rfl, hbw⟩
  ·rw [hN]
   cases b1 <;> cases b2 <;> cases b3
   all_goals
    go_enter Tryz.func60, Tryz.ntmps60
    go_wp2_with (first
     | (go_at_call 88; refine (hK _).mono ?_; rintro e w1 ⟨rfl, rfl⟩)
     | (go_at_call 90; refine HC.out.mono ?_; rintro e w2 ⟨rfl, hb2⟩; have hbw := HB.out.trans (hb2.mono HB.out.size); obtain ⟨c0, c1, c2, c3, c4, c5, c6, c7, c8, c9, c10, c11, c12, c13⟩ := (HE.out.below hb2).at; obtain ⟨p0, p1, p2⟩ := HP.out.below hb2; simp only at c0 c1 c2 c3 c4 c5 c6 c7 c8 c9 c10 c11 c12 c13 p0 p1 p2))
    go_ret
    exact ⟨rfl, hbw⟩
 ·have he : entErr e = ownErr e := by unfold entErr; rw [if_neg h0]
  rw [he]
  rw [← ho] at hC
  have hp : (0 : Int) < (ownErr e : Int) := by omega
  generalize (ownErr e : Int) = E at *
  clear hz hk a3 he ho hd h0 hB0 hB1 hE hP
  have HC : Hid (Calls Tryz.prog 90 _ _ _) := hC
  have HB : Hid (Below _ _ _) := hB
  clear hC hB
  obtain ⟨k, ⟨gc, gp⟩, ⟨li, lc, lu, lk⟩, ⟨fz, fr, fb⟩, ⟨tz, tr, tb⟩, n⟩ := e
  unfold agE celE agL at *
  simp only at *
  go_enter Tryz.func60, Tryz.ntmps60
  go_wp2_with (first
   | (go_at_call 88; refine (hK _).mono ?_; rintro e w1 ⟨rfl, rfl⟩)
   | (go_at_call 90; refine HC.out.mono ?_; rintro e w2 ⟨rfl, hb2⟩; have hbw := HB.out.trans (hb2.mono HB.out.size)))
  go_ret
  exact ⟨rfl, hbw⟩
end Go.Proofs.YtppodkkefegbkaaGreatDoor
