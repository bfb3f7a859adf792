/-
  What the reference's EntryText answers, whatever the entry: its text, an empty one where it is not well; over whatever world; nothing old is turned.
-/
import Derived.Test.YtgdhfipbbijngaaGreatDoorTTextA
import Derived.Test.YtgdhfipbbijngaaGreatDoorEText
namespace Go.Proofs.YtgdhfipbbijngaaGreatDoor
open Go.RowKit Go.Lib Go.Sort

theorem textR_goods {e : En} (hk : e.1 = kGoods) : (((⟨#[103, 111, 111, 100, 115, 32]⟩ : ByteArray) ++ e.2.1.1) ++ ⟨#[32]⟩) ++ decB e.2.1.2 = arr (entB e) := by
  apply bytes_ext
  unfold entB decB
  rw [hk, kd_goods]
  simp only [append_bytes]
  simp
theorem textR_lot {e : En} (hk : e.1 = kLot) (h : lotErr e.2.2.1 = 0) : (⟨#[108, 111, 116, 32]⟩ : ByteArray) ++ ltext e.2.2.1 = arr (entB e) := by
  apply bytes_ext
  unfold entB ltext
  rw [hk, kd_lot, if_pos ((okL_err _).2 h)]
  simp only [append_bytes]
  simp
theorem joinsR (k a d : ByteArray) (hk : k.size ≤ 6) (ha : a.size ≤ 8) (hd : d.size ≤ 13) : ∃ t1 t2 : ByteArray,
    (∀ w, (Op.stringOp .add k a).run Tryz.prog w = .ok (.string t1) w) ∧ (∀ w, (Op.stringOp .add t1 ⟨#[32]⟩).run Tryz.prog w = .ok (.string t2) w) ∧
    (∀ w, (Op.stringOp .add t2 d).run Tryz.prog w = .ok (.string (((k ++ a) ++ ⟨#[32]⟩) ++ d)) w) := by
  have e : (⟨#[32]⟩ : ByteArray).size = 1 := rfl
  refine ⟨_, _, fun w => run_string_add_sum w _ _ ?_, fun w => run_string_add_sum w _ _ ?_, fun w => run_string_add_sum w _ _ ?_⟩
  all_goals
    (try simp only [ByteArray.size_append, e])
    omega
set_option maxRecDepth 100000 in
set_option maxHeartbeats 8000000 in
theorem ttx_out (e : En) (w : World) (hz : SzE e) (h : entErr e ≠ 0) :
    Calls Tryz.prog 12 #[agE e] w fun r w' => r = .returned (.string ⟨#[]⟩) ∧ Below w.heap.size w w' := by
  have hB : Below w.heap.size w (w.alloc (celE e)) := (Below.refl _ w).alloc (Nat.le_refl _) _
  have hE := BlkE.new w e
  have hC := terr_any e (w.alloc (celE e)) hz
  have hp : (0 : Int) < (entErr e : Int) := by omega
  generalize (entErr e : Int) = E at *
  clear hz h
  obtain ⟨k, ⟨gc, gp⟩, ⟨li, lc, lu, lk⟩, ⟨fz, fr, fb⟩, ⟨tz, tr, tb⟩, n⟩ := e
  unfold agE celE at *
  simp only at *
  have HC : Hid (Calls Tryz.prog 10 _ _ _) := hC
  have HB : Hid (Below _ _ _) := hB
  clear hC hE hB
  go_enter Tryz.func12, Tryz.ntmps12
  go_wp2_with (go_at_call 10; refine HC.out.mono ?_; rintro e w1 ⟨rfl, hb1⟩)
  go_ret
  exact ⟨rfl, HB.out.trans (hb1.mono HB.out.size)⟩
set_option maxRecDepth 100000 in
set_option maxHeartbeats 8000000 in
theorem ttx_lot (e : En) (w : World) (hz : SzE e) (hk : e.1 = kLot) (h : entErr e = 0) :
    Calls Tryz.prog 12 #[agE e] w fun r w' => r = .returned (.string (arr (entB e))) ∧ Below w.heap.size w w' := by
  have hB : Below w.heap.size w (w.alloc (celE e)) := (Below.refl _ w).alloc (Nat.le_refl _) _
  have hE := BlkE.new w e
  have hC := terr_any e (w.alloc (celE e)) hz
  rw [h] at hC
  have h0 := (entErr_own h).1
  rw [ownErr_lotR hk] at h0
  have hI := fun w1 => lotText_any e.2.2.1 w1 hz.li hz.lc
  have hs := ltext_size h0
  have hg : (e.1.toList == kGoods.data.toList) = false := other_word (by rw [hk]; decide)
  have hl : (e.1.toList == kLot.data.toList) = true := same_wordR hk
  have HX : Hid ((⟨#[108, 111, 116, 32]⟩ : ByteArray) ++ ltext e.2.2.1 = arr (entB e)) := textR_lot hk h0
  rw [← HX.out]
  generalize ltext e.2.2.1 = td at *
  clear hz h h0 hk HX
  obtain ⟨k, ⟨gc, gp⟩, ⟨li, lc, lu, lk⟩, ⟨fz, fr, fb⟩, ⟨tz, tr, tb⟩, n⟩ := e
  unfold agE celE agL at *
  simp only at *
  have HC : Hid (Calls Tryz.prog 10 _ _ _) := hC
  have HE : Hid (BlkE _ _ _) := hE
  have HB : Hid (Below _ _ _) := hB
  clear hC hE hB
  go_enter Tryz.func12, Tryz.ntmps12
  go_wp2_with (first | (go_at_call 10; refine HC.out.mono ?_; rintro e w1 ⟨rfl, hb1⟩; have hbw1 := HB.out.trans (hb1.mono HB.out.size); have hE1 := HE.out.below hb1; obtain ⟨c0, c1, c2, c3, c4, c5, c6, c7, c8, c9, c10, c11, c12, c13⟩ := hE1.at; simp only at c0 c1 c2 c3 c4 c5 c6 c7 c8 c9 c10 c11 c12 c13) | (go_at_call 32; refine (hI _).mono ?_; rintro e w2 ⟨rfl, hb2⟩))
  go_ret
  exact ⟨rfl, hbw1.trans (hb2.mono hbw1.size)⟩
set_option maxRecDepth 100000 in
set_option maxHeartbeats 8000000 in
theorem ttx_goods (e : En) (w : World) (hz : SzE e) (hk : e.1 = kGoods) (h : entErr e = 0) :
    Calls Tryz.prog 12 #[agE e] w fun r w' => r = .returned (.string (arr (entB e))) ∧ Below w.heap.size w w' := by
  have hB : Below w.heap.size w (w.alloc (celE e)) := (Below.refl _ w).alloc (Nat.le_refl _) _
  have hE := BlkE.new w e
  have hC := terr_any e (w.alloc (celE e)) hz
  rw [h] at hC
  have h0 := (entErr_own h).1
  rw [ownErr_goodsR hk] at h0
  obtain ⟨hn, n1, n2⟩ := gdErr_ok h0
  have hI := fun w1 => refDecimal e.2.1.2 (by omega) (by omega) w1
  have hg : (e.1.toList == kGoods.data.toList) = true := same_wordR hk
  obtain ⟨t1, t2, s1, s2, s3⟩ := joinsR ⟨#[103, 111, 111, 100, 115, 32]⟩ e.2.1.1 (decB e.2.1.2) (by decide) (name_short hn) (decB_size (by omega))
  have HX : Hid ((((⟨#[103, 111, 111, 100, 115, 32]⟩ : ByteArray) ++ e.2.1.1) ++ ⟨#[32]⟩) ++ decB e.2.1.2 = arr (entB e)) := textR_goods hk
  rw [HX.out] at s3
  generalize arr (entB e) = tx at *
  clear hz h h0 hn n1 n2 HX hk
  unfold decB at *
  obtain ⟨k, ⟨gc, gp⟩, ⟨li, lc, lu, lk⟩, ⟨fz, fr, fb⟩, ⟨tz, tr, tb⟩, n⟩ := e
  unfold agE celE at *
  simp only at *
  generalize (⟨(decDigits gp.toNat).toArray⟩ : ByteArray) = td at *
  have HC : Hid (Calls Tryz.prog 10 _ _ _) := hC
  have HE : Hid (BlkE _ _ _) := hE
  have HB : Hid (Below _ _ _) := hB
  clear hC hE hB
  go_enter Tryz.func12, Tryz.ntmps12
  go_wp2_with (first | (go_at_call 10; refine HC.out.mono ?_; rintro e w1 ⟨rfl, hb1⟩; have hbw1 := HB.out.trans (hb1.mono HB.out.size); have hE1 := HE.out.below hb1; obtain ⟨c0, c1, c2, c3, c4, c5, c6, c7, c8, c9, c10, c11, c12, c13⟩ := hE1.at; simp only at c0 c1 c2 c3 c4 c5 c6 c7 c8 c9 c10 c11 c12 c13))
  have hbR : ∀ d os, Below w.heap.size w (grow (redrawn w1 d) os) := fun d os => hbw1.trans ((below_regrown w1 d os).mono hbw1.size)
  have k0 := cell_regrown c0
  have k1 := cell_regrown c1
  have k2 := cell_regrown c2
  have k3 := cell_regrown c3
  have k4 := cell_regrown c4
  have k5 := cell_regrown c5
  have k6 := cell_regrown c6
  have k7 := cell_regrown c7
  have k8 := cell_regrown c8
  have k9 := cell_regrown c9
  have k10 := cell_regrown c10
  have k11 := cell_regrown c11
  have k12 := cell_regrown c12
  have k13 := cell_regrown c13
  have cI := fun d os => Calls.regrown_of (w := w1) (d := d) (os := os) (hI _)
  clear c0 c1 c2 c3 c4 c5 c6 c7 c8 c9 c10 c11 c12 c13 HE HC hI hb1 hE1
  refine wp_region_quiet_below (by kernel_rfl) (by kernel_rfl) ?_
  repeat (quiet_step ((go_at_call 31; exact cI _ _)))
  refine wpQuiet_nil ?_
  intro _ hw'
  obtain ⟨⟨dq, osq⟩, hw''⟩ := hw'
  subst hw''
  have hbE := hbR dq osq
  go_wp2
  go_ret
  exact ⟨rfl, hbE⟩
/-- EntryText. -/
theorem ttext_any (e : En) (w : World) (hz : SzE e) :
    Calls Tryz.prog 12 #[agE e] w fun r w' => r = .returned (.string (etext e)) ∧ Below w.heap.size w w' := by
  by_cases h : entErr e = 0
  · rw [etext_ok h]
    have h0 := (entErr_own h).1
    rcases kind_cases e.1 with hk | hk | hk | hk | hk | hk | hk
    · exact ttx_goods e w hz hk h
    · exact ttx_lot e w hz hk h
    · rw [ownErr_to hk] at h0; exact ttx_to e w hz hk h (piece_ok h0 (kd_some (by rcases hk with hk | hk <;> rw [hk] <;> decide)))
    · rw [ownErr_from hk] at h0; exact ttx_from e w hz hk h (piece_ok h0 (kd_some (by rcases hk with hk | hk <;> rw [hk] <;> decide)))
    · rw [ownErr_move hk] at h0; exact ttx_move e w hz hk h (piece_ok h0 (kd_some (by rw [hk]; decide)))
    · rw [ownErr_hold hk] at h0; exact ttx_hold e w hz hk h (piece_ok h0 (kd_some (by rcases hk with hk | hk <;> rw [hk] <;> decide)))
    · rw [ownErr_otherR hk] at h0; omega
  · rw [etext_no h]
    exact ttx_out e w hz h
end Go.Proofs.YtgdhfipbbijngaaGreatDoor
