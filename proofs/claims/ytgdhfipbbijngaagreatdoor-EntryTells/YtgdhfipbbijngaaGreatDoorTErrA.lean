/-
  What the reference's EntryError answers of an entry of goods, of a lot and of no kind: the number of its error; over whatever world; nothing old is turned.
-/
import Derived.Test.YtgdhfipbbijngaaGreatDoorEzB
import Derived.Test.YtgdhfipbbijngaaGreatDoorBzB
namespace Go.Proofs.YtgdhfipbbijngaaGreatDoor
open Go.RowKit Go.Lib Go.Sort

theorem Tryz.guardLo : Tryz.prog.eqGuardType Tryz.prog.depth 25 = false := by kernel_rfl
theorem Tryz.guardGo : Tryz.prog.eqGuardType Tryz.prog.depth 23 = false := by kernel_rfl
theorem eqG10 (x y : Gd) (w : World) : (Op.equalIn 10000 23 (.agg #[.string x.1, .int .i64 x.2]) (.agg #[.string y.1, .int .i64 y.2])).run Tryz.prog w = .ok (decide (x = y)) w := by
  obtain ⟨a, r⟩ := x
  obtain ⟨a', r'⟩ := y
  have u3 := Tryz.underlying3
  have a3 := Tryz.isAgg3
  have z3 := Tryz.sizeOf3
  have u9 := Tryz.underlying9
  have a9 := Tryz.isAgg9
  have z9 := Tryz.sizeOf9
  have hS : Tryz.prog.underlying 23 = some (.struct (Tryz.prog.fieldsOf 23)) := by kernel_rfl
  have hp : Tryz.prog.stoodInHeld 23 = false := by kernel_rfl
  rw [show (10000 : Nat) = 9999 + 1 from rfl, run_equalIn_agg w 9999 23 _ _ hS hp]
  simp only [Program.fieldsOf, Tryz.underlying23]
  have e0 := same_eq a a'
  go_simp
  by_cases h0 : a = a' <;> by_cases h1 : r = r' <;> simp [h0, h1]
theorem eqL10 (x y : Lo) (w : World) : (Op.equalIn 10000 25 (.agg #[.string x.1, .string x.2.1, .int .i64 x.2.2.1, .int .i64 x.2.2.2]) (.agg #[.string y.1, .string y.2.1, .int .i64 y.2.2.1, .int .i64 y.2.2.2])).run Tryz.prog w = .ok (decide (x = y)) w := by
  obtain ⟨a, r, b, k⟩ := x
  obtain ⟨a', r', b', k'⟩ := y
  have u3 := Tryz.underlying3
  have a3 := Tryz.isAgg3
  have z3 := Tryz.sizeOf3
  have u9 := Tryz.underlying9
  have a9 := Tryz.isAgg9
  have z9 := Tryz.sizeOf9
  have hS : Tryz.prog.underlying 25 = some (.struct (Tryz.prog.fieldsOf 25)) := by kernel_rfl
  have hp : Tryz.prog.stoodInHeld 25 = false := by kernel_rfl
  rw [show (10000 : Nat) = 9999 + 1 from rfl, run_equalIn_agg w 9999 25 _ _ hS hp]
  simp only [Program.fieldsOf, Tryz.underlying25]
  have e0 := same_eq a a'
  have e1 := same_eq r r'
  go_simp
  by_cases h0 : a = a' <;> by_cases h1 : r = r' <;> by_cases h2 : b = b' <;> by_cases h3 : k = k' <;> simp [h0, h1, h2, h3]
theorem same_wordR {k z : ByteArray} (h : k = z) : (k.toList == z.data.toList) = true := by
  have := same_eq k z
  rw [decide_eq_true h, Lib.toList_data z] at this
  exact this
theorem ownErr_goodsR {e : En} (h : e.1 = kGoods) : ownErr e = gdErr e.2.1 := by unfold ownErr; rw [h, kd_goods]
theorem ownErr_lotR {e : En} (h : e.1 = kLot) : ownErr e = lotErr e.2.2.1 := by unfold ownErr; rw [h, kd_lot]
theorem ownErr_otherR {e : En} (h : NoKind e.1) : ownErr e = 4 := by unfold ownErr; rw [h.kd]
set_option maxRecDepth 100000 in
set_option maxHeartbeats 8000000 in
theorem terr_other (e : En) (w : World) (hk : NoKind e.1) :
    Calls Tryz.prog 10 #[agE e] w fun r w' => r = .returned (.int .i64 (entErr e)) ∧ Below w.heap.size w w' := by
  have hB0 : Below w.heap.size w (w.alloc (celE e)) := (Below.refl _ w).alloc (Nat.le_refl _) _
  have hB1 : Below (w.alloc (celE e)).heap.size (w.alloc (celE e)) ((w.alloc (celE e)).alloc (.cells #[.string ⟨#[]⟩, .int .i64 0, .int .i64 0] 27)) := (Below.refl _ _).alloc (Nat.le_refl _) _
  have hB := hB0.trans (hB1.mono hB0.size)
  have hE := (BlkE.new w e).below hB1
  have hP := BoxAt.new (w.alloc (celE e)) zeroP 27 (w.heap.size + 1) (by simp)
  have hK := fun w => isKind_any e.1 w
  have a3 : isKd e.1 = false := by unfold isKd; rw [hk.kd]
  have he : entErr e = 4 := by unfold entErr; rw [if_neg (by rw [ownErr_otherR hk]; decide), ownErr_otherR hk]
  rw [a3] at hK
  rw [he]
  clear hk a3 he hP hE hB0 hB1
  obtain ⟨k, ⟨gc, gp⟩, ⟨li, lc, lu, lk⟩, ⟨fz, fr, fb⟩, ⟨tz, tr, tb⟩, n⟩ := e
  unfold agE celE at *
  simp only at *
  go_enter Tryz.func10, Tryz.ntmps10
  go_wp2_with (go_at_call 15; refine (hK _).mono ?_; rintro e w1 ⟨rfl, rfl⟩)
  go_ret
  exact ⟨rfl, hB⟩
set_option maxRecDepth 100000 in
set_option maxHeartbeats 8000000 in
theorem terr_goods (e : En) (w : World) (hz : SzE e) (hk : e.1 = kGoods) :
    Calls Tryz.prog 10 #[agE e] w fun r w' => r = .returned (.int .i64 (entErr e)) ∧ Below w.heap.size w w' := by
  have hB0 : Below w.heap.size w (w.alloc (celE e)) := (Below.refl _ w).alloc (Nat.le_refl _) _
  have hB1 : Below (w.alloc (celE e)).heap.size (w.alloc (celE e)) ((w.alloc (celE e)).alloc (.cells #[.string ⟨#[]⟩, .int .i64 0, .int .i64 0] 27)) := (Below.refl _ _).alloc (Nat.le_refl _) _
  have hB := hB0.trans (hB1.mono hB0.size)
  have hE := (BlkE.new w e).below hB1
  have hP := BoxAt.new (w.alloc (celE e)) zeroP 27 (w.heap.size + 1) (by simp)
  have hK := fun w => isKind_any e.1 w
  have a3 : isKd e.1 = true := by rw [hk]; decide
  rw [a3] at hK
  have hC := gerror_any e.2.1 ((w.alloc (celE e)).alloc (.cells #[.string ⟨#[]⟩, .int .i64 0, .int .i64 0] 27)) hz.gc
  have ho := ownErr_goodsR hk
  have hd : kd e.1 = .goods := by rw [hk]; rfl
  have hg : (e.1.toList == kGoods.data.toList) = true := same_wordR hk
  simp only at hg
  by_cases h0 : ownErr e = 0
  · have he : entErr e = if (decide (e.2.2.1 = zeroL) && (decide (e.2.2.2.1 = zeroP) && (decide (e.2.2.2.2.1 = zeroP) && decide (e.2.2.2.2.2 = 0)))) = true then 0 else 3 := by
      unfold entErr othersE
      rw [if_pos h0, hd]
      unfold othersC sameE zeroE
      simp
    rw [he]
    rw [← ho, h0] at hC
    have q1 := fun W => eqL10 e.2.2.1 zeroL W
    have q2 := fun W => eqPl10 e.2.2.2.1 zeroP W
    have q3 := fun W => eqPl10 e.2.2.2.2.1 zeroP W
    have g1 := Tryz.guardLo
    have g2 := Tryz.guardPl
    have hN : e.2.2.2.2.2 = 0 ∨ (e.2.2.2.2.2 == 0) = false := by by_cases h : e.2.2.2.2.2 = 0 <;> simp [h]
    have hNd : decide (e.2.2.2.2.2 = 0) = (e.2.2.2.2.2 == 0) := rfl
    rw [hNd]
    generalize decide (e.2.2.1 = zeroL) = b1 at *
    generalize decide (e.2.2.2.1 = zeroP) = b2 at *
    generalize decide (e.2.2.2.2.1 = zeroP) = b3 at *
    unfold zeroP at *
    unfold zeroL at *
    clear hz hk a3 he ho hd h0 hB0 hB1 hNd
    have HE : Hid (BlkE _ _ _) := hE
    have HP : Hid (BoxAt _ _ _) := hP
    have HC : Hid (Calls Tryz.prog 24 _ _ _) := hC
    have HB : Hid (Below _ _ _) := hB
    clear hE hP hC hB
    obtain ⟨k, ⟨gc, gp⟩, ⟨li, lc, lu, lk⟩, ⟨fz, fr, fb⟩, ⟨tz, tr, tb⟩, n⟩ := e
    unfold agE celE at *
    simp only at *
    rcases hN with rfl | hN
    · cases b1 <;> cases b2 <;> cases b3
      all_goals
        go_enter Tryz.func10, Tryz.ntmps10
        go_wp2_with (first
          | (go_at_call 15; refine (hK _).mono ?_; rintro e w1 ⟨rfl, rfl⟩)
          | (go_at_call 24; refine HC.out.mono ?_; rintro e w2 ⟨rfl, hb2⟩; have hbw := HB.out.trans (hb2.mono HB.out.size); obtain ⟨c0, c1, c2, c3, c4, c5, c6, c7, c8, c9, c10, c11, c12, c13⟩ := (HE.out.below hb2).at; obtain ⟨p0, p1, p2⟩ := HP.out.below hb2; simp only at c0 c1 c2 c3 c4 c5 c6 c7 c8 c9 c10 c11 c12 c13 p0 p1 p2))
        go_ret
        exact ⟨rfl, hbw⟩
    · rw [hN]
      cases b1 <;> cases b2 <;> cases b3
      all_goals
        go_enter Tryz.func10, Tryz.ntmps10
        go_wp2_with (first
          | (go_at_call 15; refine (hK _).mono ?_; rintro e w1 ⟨rfl, rfl⟩)
          | (go_at_call 24; refine HC.out.mono ?_; rintro e w2 ⟨rfl, hb2⟩; have hbw := HB.out.trans (hb2.mono HB.out.size); obtain ⟨c0, c1, c2, c3, c4, c5, c6, c7, c8, c9, c10, c11, c12, c13⟩ := (HE.out.below hb2).at; obtain ⟨p0, p1, p2⟩ := HP.out.below hb2; simp only at c0 c1 c2 c3 c4 c5 c6 c7 c8 c9 c10 c11 c12 c13 p0 p1 p2))
        go_ret
        exact ⟨rfl, hbw⟩
  · have he : entErr e = ownErr e := by unfold entErr; rw [if_neg h0]
    rw [he]
    rw [← ho] at hC
    have hp : (0 : Int) < (ownErr e : Int) := by omega
    generalize (ownErr e : Int) = E at *
    clear hz hk a3 he ho hd h0 hB0 hB1 hE hP
    have HC : Hid (Calls Tryz.prog 24 _ _ _) := hC
    have HB : Hid (Below _ _ _) := hB
    clear hC hB
    obtain ⟨k, ⟨gc, gp⟩, ⟨li, lc, lu, lk⟩, ⟨fz, fr, fb⟩, ⟨tz, tr, tb⟩, n⟩ := e
    unfold agE celE at *
    simp only at *
    go_enter Tryz.func10, Tryz.ntmps10
    go_wp2_with (first
      | (go_at_call 15; refine (hK _).mono ?_; rintro e w1 ⟨rfl, rfl⟩)
      | (go_at_call 24; refine HC.out.mono ?_; rintro e w2 ⟨rfl, hb2⟩; have hbw := HB.out.trans (hb2.mono HB.out.size)))
    go_ret
    exact ⟨rfl, hbw⟩
end Go.Proofs.YtgdhfipbbijngaaGreatDoor
