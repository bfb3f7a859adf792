/-
  What entry.Text answers: an entry's text, an empty one where it is not well; over every world that holds the sentinels and strconv's table of powers as the program lays them; nothing old is turned.
-/
import Derived.Test.YtgdhfipbbijngaaGreatDoorETextA
import Derived.Test.YtgdhfipbbijngaaGreatDoorETextB
namespace Go.Proofs.YtgdhfipbbijngaaGreatDoor
open Go.RowKit Go.Lib Go.Sort

/-- piecesText of an entry of pieces that is well. -/
theorem ptx_any (e : En) (w : World) (s : Nat → Addr) (hs : Es w s) (hp : Pow w) (h0 : ownErr e = 0) (h1 : e.1 ≠ kGoods) (h2 : e.1 ≠ kLot) :
    Calls Tryz.prog 30 #[agE e] w fun r w' => r = .returned (.string (arr (entB e))) ∧ Below w.heap.size w w' := by
  rcases kind_cases e.1 with h | h | h | h | h | h | h
  · exact absurd h h1
  · exact absurd h h2
  · rw [ownErr_to h] at h0; exact ptx_to e w s h (piece_ok h0 (kd_some (by rcases h with h | h <;> rw [h] <;> decide))) hs hp
  · rw [ownErr_from h] at h0; exact ptx_from e w s h (piece_ok h0 (kd_some (by rcases h with h | h <;> rw [h] <;> decide))) hs hp
  · rw [ownErr_move h] at h0; exact ptx_move e w s h (piece_ok h0 (kd_some (by rw [h]; decide))) hs hp
  · rw [ownErr_hold h] at h0; exact ptx_hold e w h (piece_ok h0 (kd_some (by rcases h with h | h <;> rw [h] <;> decide))) hp
  · rw [ownErr_other h] at h0; omega
set_option maxRecDepth 100000 in
set_option maxHeartbeats 8000000 in
theorem etext_out (e : En) (w : World) (s : Nat → Addr) (hz : SzE e) (hs : Es w s) (h : entErr e ≠ 0) :
    Calls Tryz.prog 11 #[agE e] w fun r w' => r = .returned (.string ⟨#[]⟩) ∧ Below w.heap.size w w' := by
  have hB : Below w.heap.size w (w.alloc (celE e)) := (Below.refl _ w).alloc (Nat.le_refl _) _
  have hE := BlkE.new w e
  have hC := echeck_any e (w.alloc (celE e)) s hz (hs.below hB)
  rw [errP_pos s h] at hC
  clear hz hs h
  generalize s (entErr e - 1) = ad at *
  obtain ⟨k, ⟨gc, gp⟩, ⟨li, lc, lu, lk⟩, ⟨fz, fr, fb⟩, ⟨tz, tr, tb⟩, n⟩ := e
  unfold agE celE at *
  simp only at *
  have HC : Hid (Calls Tryz.prog 9 _ _ _) := hC
  clear hC hE
  go_enter Tryz.func11, Tryz.ntmps11
  go_wp2_with (go_at_call 9; refine HC.out.mono ?_; rintro e w1 ⟨rfl, hb⟩)
  go_ret
  exact ⟨rfl, hB.trans (hb.mono hB.size)⟩
set_option maxRecDepth 100000 in
set_option maxHeartbeats 8000000 in
theorem etext_pieces (e : En) (w : World) (s : Nat → Addr) (hz : SzE e) (hs : Es w s) (hp : Pow w) (h : entErr e = 0) (h1 : e.1 ≠ kGoods) (h2 : e.1 ≠ kLot) :
    Calls Tryz.prog 11 #[agE e] w fun r w' => r = .returned (.string (arr (entB e))) ∧ Below w.heap.size w w' := by
  have hB : Below w.heap.size w (w.alloc (celE e)) := (Below.refl _ w).alloc (Nat.le_refl _) _
  have hE := BlkE.new w e
  have hC := echeck_any e (w.alloc (celE e)) s hz (hs.below hB)
  rw [h, errP_zero] at hC
  have hP := fun w1 (hb : Below w.heap.size w w1) => ptx_any e w1 s (hs.below hb) (hp.below hb) (entErr_own h).1 h1 h2
  have e1 := other_word h1
  have e2 := other_word h2
  generalize arr (entB e) = tx at *
  clear hz hs hp h h1 h2
  obtain ⟨k, ⟨gc, gp⟩, ⟨li, lc, lu, lk⟩, ⟨fz, fr, fb⟩, ⟨tz, tr, tb⟩, n⟩ := e
  unfold agE celE at *
  simp only at *
  have HC : Hid (Calls Tryz.prog 9 _ _ _) := hC
  have HE : Hid (BlkE _ _ _) := hE
  clear hC hE
  go_enter Tryz.func11, Tryz.ntmps11
  go_wp2_with (first
    | (go_at_call 9; refine HC.out.mono ?_; rintro e w1 ⟨rfl, hb⟩; have hb1 := hB.trans (hb.mono hB.size); obtain ⟨c0, c1, c2, c3, c4, c5, c6, c7, c8, c9, c10, c11, c12, c13⟩ := (HE.out.below hb).at; simp only at c0 c1 c2 c3 c4 c5 c6 c7 c8 c9 c10 c11 c12 c13)
    | (go_at_call 30; refine (hP _ hb1).mono ?_; rintro e w2 ⟨rfl, hb2⟩))
  go_ret
  exact ⟨rfl, hb1.trans (hb2.mono hb1.size)⟩
theorem joinsG (k a d : ByteArray) (hk : k.size ≤ 5) (ha : a.size ≤ 8) (hd : d.size ≤ 13) : ∃ t1 t2 t3 : ByteArray,
    (∀ w, (Op.stringOp .add k ⟨#[32]⟩).run Tryz.prog w = .ok (.string t1) w) ∧ (∀ w, (Op.stringOp .add t1 a).run Tryz.prog w = .ok (.string t2) w) ∧ (∀ w, (Op.stringOp .add t2 ⟨#[32]⟩).run Tryz.prog w = .ok (.string t3) w) ∧
    (∀ w, (Op.stringOp .add t3 d).run Tryz.prog w = .ok (.string ((((k ++ ⟨#[32]⟩) ++ a) ++ ⟨#[32]⟩) ++ d)) w) := by
  have e : (⟨#[32]⟩ : ByteArray).size = 1 := rfl
  refine ⟨_, _, _, fun w => run_string_add_sum w _ _ ?_, fun w => run_string_add_sum w _ _ ?_, fun w => run_string_add_sum w _ _ ?_, fun w => run_string_add_sum w _ _ ?_⟩
  all_goals
    simp only [ByteArray.size_append, e]
    omega
theorem joinsL (k d : ByteArray) (hk : k.size ≤ 5) (hd : d.size ≤ 45) : ∃ t1 : ByteArray,
    (∀ w, (Op.stringOp .add k ⟨#[32]⟩).run Tryz.prog w = .ok (.string t1) w) ∧ (∀ w, (Op.stringOp .add t1 d).run Tryz.prog w = .ok (.string ((k ++ ⟨#[32]⟩) ++ d)) w) := by
  have e : (⟨#[32]⟩ : ByteArray).size = 1 := rfl
  refine ⟨_, fun w => run_string_add_sum w _ _ ?_, fun w => run_string_add_sum w _ _ ?_⟩
  all_goals
    simp only [ByteArray.size_append, e]
    omega
theorem gdErr_ok {g : Gd} (h : gdErr g = 0) : isName g.1.data.toList = true ∧ 1 ≤ g.2 ∧ g.2 ≤ 1000 := by
  unfold gdErr at h
  by_cases h1 : isName g.1.data.toList = true
  · rw [if_pos h1] at h
    by_cases h2 : pw g.2 = true
    · have : 1 ≤ g.2 ∧ g.2 ≤ 1000 := by unfold pw at h2; simpa using h2
      exact ⟨h1, this⟩
    · rw [if_neg h2] at h; omega
  · rw [if_neg h1] at h; omega
set_option maxRecDepth 100000 in
set_option maxHeartbeats 8000000 in
theorem etext_goods (e : En) (w : World) (s : Nat → Addr) (hz : SzE e) (hs : Es w s) (hp : Pow w) (h : entErr e = 0) (hk : e.1 = kGoods) :
    Calls Tryz.prog 11 #[agE e] w fun r w' => r = .returned (.string (arr (entB e))) ∧ Below w.heap.size w w' := by
  have hB : Below w.heap.size w (w.alloc (celE e)) := (Below.refl _ w).alloc (Nat.le_refl _) _
  have hE := BlkE.new w e
  have hC := echeck_any e (w.alloc (celE e)) s hz (hs.below hB)
  rw [h, errP_zero] at hC
  have h0 := (entErr_own h).1
  rw [ownErr_goods hk] at h0
  obtain ⟨hn, n1, n2⟩ := gdErr_ok h0
  have hI := fun w1 (hb : Below w.heap.size w w1) => itoa_any e.2.1.2 (by omega) (by omega) w1 (hp.below hb)
  obtain ⟨t1, t2, t3, s1, s2, s3, s4⟩ := joinsG e.1 e.2.1.1 (decB e.2.1.2) (by rw [hk]; decide) (name_short hn) (decB_size (by omega))
  have HX : Hid ((((e.1 ++ ⟨#[32]⟩) ++ e.2.1.1) ++ ⟨#[32]⟩) ++ decB e.2.1.2 = arr (entB e)) := text_goods hk
  rw [HX.out] at s4
  generalize arr (entB e) = tx at *
  clear hz hs hp h h0 hn n1 n2 HX
  unfold decB at *
  obtain ⟨k, ⟨gc, gp⟩, ⟨li, lc, lu, lk⟩, ⟨fz, fr, fb⟩, ⟨tz, tr, tb⟩, n⟩ := e
  simp only at hk
  subst hk
  unfold agE celE at *
  simp only at *
  generalize (⟨(decDigits gp.toNat).toArray⟩ : ByteArray) = td at *
  have HC : Hid (Calls Tryz.prog 9 _ _ _) := hC
  have HE : Hid (BlkE _ _ _) := hE
  clear hC hE
  go_enter Tryz.func11, Tryz.ntmps11
  go_wp2_with (first | (go_at_call 9; refine HC.out.mono ?_; rintro e w1 ⟨rfl, hb⟩; have hb1 := hB.trans (hb.mono hB.size); obtain ⟨c0, c1, c2, c3, c4, c5, c6, c7, c8, c9, c10, c11, c12, c13⟩ := (HE.out.below hb).at; simp only at c0 c1 c2 c3 c4 c5 c6 c7 c8 c9 c10 c11 c12 c13))
  have hbR : ∀ d os, Below w.heap.size w (grow (redrawn w1 d) os) := fun d os => hb1.trans ((below_regrown w1 d os).mono hb1.size)
  have k0 := cell_regrown c0
  have k1 := cell_regrown c1
  have k2 := cell_regrown c2
  have k3 := cell_regrown c3
  have k4 := cell_regrown c4
  have k5 := cell_regrown c5
  have k6 := cell_regrown c6
  have k7 := cell_regrown c7
  have k8 := cell_regrown c8
  have k9 := cell_regrown c9
  have k10 := cell_regrown c10
  have k11 := cell_regrown c11
  have k12 := cell_regrown c12
  have k13 := cell_regrown c13
  have cI := fun d os => Calls.regrown_of (w := w1) (hI _ (hbR d os))
  clear c0 c1 c2 c3 c4 c5 c6 c7 c8 c9 c10 c11 c12 c13 HE HC hI hb hb1
  refine wp_region_quiet_below (by kernel_rfl) (by kernel_rfl) ?_
  repeat (quiet_step ((go_at_call 28; exact cI _ _)))
  refine wpQuiet_nil ?_
  intro _ hw'
  obtain ⟨⟨dq, osq⟩, hw''⟩ := hw'
  subst hw''
  have hbE := hbR dq osq
  go_wp2
  go_ret
  exact ⟨rfl, hbE⟩
set_option maxRecDepth 100000 in
set_option maxHeartbeats 8000000 in
theorem etext_lot (e : En) (w : World) (s : Nat → Addr) (hz : SzE e) (hs : Es w s) (hp : Pow w) (h : entErr e = 0) (hk : e.1 = kLot) :
    Calls Tryz.prog 11 #[agE e] w fun r w' => r = .returned (.string (arr (entB e))) ∧ Below w.heap.size w w' := by
  have hB : Below w.heap.size w (w.alloc (celE e)) := (Below.refl _ w).alloc (Nat.le_refl _) _
  have hE := BlkE.new w e
  have hC := echeck_any e (w.alloc (celE e)) s hz (hs.below hB)
  rw [h, errP_zero] at hC
  have h0 := (entErr_own h).1
  rw [ownErr_lot hk] at h0
  have hI := fun w1 (hb : Below w.heap.size w w1) => ltext_any e.2.2.1 w1 s hz.li hz.lc (hs.three.two.below hb) (hp.below hb)
  obtain ⟨t1, s1, s2⟩ := joinsL e.1 (ltext e.2.2.1) (by rw [hk]; decide) (ltext_size h0)
  have HX : Hid ((e.1 ++ ⟨#[32]⟩) ++ ltext e.2.2.1 = arr (entB e)) := text_lot hk h0
  rw [HX.out] at s2
  generalize arr (entB e) = tx at *
  generalize ltext e.2.2.1 = td at *
  clear hz hs hp h h0 HX
  obtain ⟨k, ⟨gc, gp⟩, ⟨li, lc, lu, lk⟩, ⟨fz, fr, fb⟩, ⟨tz, tr, tb⟩, n⟩ := e
  simp only at hk
  subst hk
  unfold agE celE agL at *
  simp only at *
  have HC : Hid (Calls Tryz.prog 9 _ _ _) := hC
  have HE : Hid (BlkE _ _ _) := hE
  clear hC hE
  go_enter Tryz.func11, Tryz.ntmps11
  go_wp2_with (first | (go_at_call 9; refine HC.out.mono ?_; rintro e w1 ⟨rfl, hb⟩; have hb1 := hB.trans (hb.mono hB.size); obtain ⟨c0, c1, c2, c3, c4, c5, c6, c7, c8, c9, c10, c11, c12, c13⟩ := (HE.out.below hb).at; simp only at c0 c1 c2 c3 c4 c5 c6 c7 c8 c9 c10 c11 c12 c13))
  have hbR : ∀ d os, Below w.heap.size w (grow (redrawn w1 d) os) := fun d os => hb1.trans ((below_regrown w1 d os).mono hb1.size)
  have k0 := cell_regrown c0
  have k1 := cell_regrown c1
  have k2 := cell_regrown c2
  have k3 := cell_regrown c3
  have k4 := cell_regrown c4
  have k5 := cell_regrown c5
  have k6 := cell_regrown c6
  have k7 := cell_regrown c7
  have k8 := cell_regrown c8
  have k9 := cell_regrown c9
  have k10 := cell_regrown c10
  have k11 := cell_regrown c11
  have k12 := cell_regrown c12
  have k13 := cell_regrown c13
  have cI := fun d os => Calls.regrown_of (w := w1) (hI _ (hbR d os))
  clear c0 c1 c2 c3 c4 c5 c6 c7 c8 c9 c10 c11 c12 c13 HE HC hI hb hb1
  refine wp_region_quiet_below (by kernel_rfl) (by kernel_rfl) ?_
  repeat (quiet_step ((go_at_call 29; exact cI _ _)))
  refine wpQuiet_nil ?_
  intro _ hw'
  obtain ⟨⟨dq, osq⟩, hw''⟩ := hw'
  subst hw''
  have hbE := hbR dq osq
  go_wp2
  go_ret
  exact ⟨rfl, hbE⟩
/-- entry.Text. -/
theorem etext_any (e : En) (w : World) (s : Nat → Addr) (hz : SzE e) (hs : Es w s) (hp : Pow w) :
    Calls Tryz.prog 11 #[agE e] w fun r w' => r = .returned (.string (etext e)) ∧ Below w.heap.size w w' := by
  by_cases h : entErr e = 0
  · rw [etext_ok h]
    by_cases h1 : e.1 = kGoods
    · exact etext_goods e w s hz hs hp h h1
    · by_cases h2 : e.1 = kLot
      · exact etext_lot e w s hz hs hp h h2
      · exact etext_pieces e w s hz hs hp h h1 h2
  · rw [etext_no h]
    exact etext_out e w s hz hs h
end Go.Proofs.YtgdhfipbbijngaaGreatDoor
