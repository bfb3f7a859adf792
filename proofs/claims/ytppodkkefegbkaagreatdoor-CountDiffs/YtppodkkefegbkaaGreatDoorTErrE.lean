/-
 What the reference's EntryError answers of an entry of pieces that go.
-/
import Derived.Test.YtppodkkefegbkaaGreatDoorTErrC
set_option maxRecDepth 100000
set_option maxHeartbeats 16000000
namespace Go.Proofs.YtppodkkefegbkaaGreatDoor
open Go.RowKit Go.Lib Go.Sort
theorem terr_from (e : En) (w : World) (hz : SzE e) (hk : e.1 = kOut ∨ e.1 = kLess) :
  Calls Tryz.prog 60 #[agE e] w fun r w' => r = .returned (.int .i64 (entErr e)) ∧ Below w.heap.size w w' := by
 have hB0 : Below w.heap.size w (w.alloc (celE e)) := (Below.refl _ w).alloc (Nat.le_refl _) _
 have hB1 : Below (w.alloc (celE e)).heap.size (w.alloc (celE e)) ((w.alloc (celE e)).alloc (.cells #[.string ⟨#[]⟩, .int .i64 0, .int .i64 0] 41)) := (Below.refl _ _).alloc (Nat.le_refl _) _
 have hB := hB0.trans (hB1.mono hB0.size)
 have hE := (BlkE.new w e).below hB1
 have hP := BoxAt.new (w.alloc (celE e)) zeroP 41 (w.heap.size + 1) (by simp)
 have hK := fun w => isKind_any e.1 w
 have a3 : isKd e.1 = true := by rcases hk with hk | hk <;> rw [hk] <;> decide
 rw [a3] at hK
 have hd : kd e.1 = .frm := by rcases hk with hk | hk <;> rw [hk] <;> rfl
 have hF := fun w => hasFrom_any e.1 w
 have hT := fun w => hasTo_any e.1 w
 rw [hd] at hF hT
 have hN := fun w => isName_any e.2.2.1.1 w hz.li
 have hg : (e.1.toList == kGoods.data.toList) = false := other_word (by rcases hk with hk | hk <;> rw [hk] <;> decide)
 have hl : (e.1.toList == kLot.data.toList) = false := other_word (by rcases hk with hk | hk <;> rw [hk] <;> decide)
 have hm : (e.1.toList == kMove.data.toList) = false := other_word (by rcases hk with hk | hk <;> rw [hk] <;> decide)
 have hPf := fun w1 => placeError_any e.2.2.2.1 w1 hz.fz
 have q3 := fun W => eqPl10 e.2.2.2.2.1 zeroP W
 have q1 := fun W => eqG10 e.2.1 zeroG W
 have g1 := Tryz.guardGo
 have g2 := Tryz.guardPl
 have he := entErr_piece (c := .frm) (e := e) hd (by nofun) (by nofun) (by nofun)
 rw [rest_eq .frm e (by nofun) (by nofun)] at he
 have HV : Hid (entErr e = _) := he
 have lsz : e.2.2.1.2.1.size ≤ maxLen := hz.lc
 clear hz hk a3 hd he hB0 hB1
 unfold kFrom at hF
 unfold kTo at hT
 obtain ⟨k, ⟨gc, gp⟩, ⟨li, lc, lu, lk⟩, ⟨fz, fr, fb⟩, ⟨tz, tr, tb⟩, n⟩ := e
 unfold agE celE at *
 unfold agP at *
 simp only at *
 obtain ⟨a0, a1, a2, a3, a4, a5, a6, a7, a8, a9, a10, a11, a12, a13⟩ := hE.at
 obtain ⟨o0, o1, o2⟩ := hP
 unfold zeroP at o0 o1 o2
 simp only at a0 a1 a2 a3 a4 a5 a6 a7 a8 a9 a10 a11 a12 a13 o0 o1 o2
 have HE : Hid (BlkE _ _ _) := hE
 have HP : Hid (BoxAt _ _ _) := BoxAt.new (w.alloc (.cells #[.string k, .string gc, .int .i64 gp, .string li, .string lc, .int .i64 lu, .int .i64 lk, .string fz, .int .i64 fr, .int .i64 fb, .string tz, .int .i64 tr, .int .i64 tb, .int .i64 n] 43)) zeroP 41 (w.heap.size + 1) (by simp)
 have HB : Hid (Below _ _ _) := hB
 clear hE hB
 cases h1 : isName li.data.toList with
 | false =>
  rw [h1] at hN
  have HX : Hid (entErr (k, (gc, gp), (li, lc, lu, lk), (fz, fr, fb), (tz, tr, tb), n) = 5) := by
   show _ = _
   rw [HV.out]
   unfold pieceErr fromErr toErr numErr kFrom kTo
   simp [h1]
  go_enter Tryz.func60, Tryz.ntmps60
  go_wp2_with (first | (go_at_call 88; refine (hK _).mono ?_; rintro e w1 ⟨rfl, rfl⟩) | (go_at_call 43; refine (hN _).mono ?_; rintro e w1 ⟨rfl, rfl⟩) | (go_at_call 91; refine (hF _).mono ?_; rintro e w1 ⟨rfl, rfl⟩) | (go_at_call 92; refine (hT _).mono ?_; rintro e w1 ⟨rfl, rfl⟩) | (go_at_call_of 42 (Value.agg #[.string fz, .int .i64 fr, .int .i64 fb]); refine (hPf _).mono ?_; rintro e w2 ⟨rfl, hb2⟩; have hbw2 := HB.out.trans (hb2.mono HB.out.size); have hE2 := HE.out.below hb2; have hP2 := HP.out.below hb2; obtain ⟨c0, c1, c2, c3, c4, c5, c6, c7, c8, c9, c10, c11, c12, c13⟩ := hE2.at; obtain ⟨s0, s1, s2⟩ := hP2; unfold zeroP at s0 s1 s2; simp only at c0 c1 c2 c3 c4 c5 c6 c7 c8 c9 c10 c11 c12 c13 s0 s1 s2))
  go_ret
  exact ⟨by rw [HX.out]; rfl, HB.out⟩
 | true =>
  rw [h1] at hN
  by_cases h2n : ¬ (placeErr (fz, fr, fb) = 0)
  ·have h2 : ¬ (placeErr (fz, fr, fb) = 0) := h2n
   clear h2n
   have hp : (0 : Int) < (placeErr (fz, fr, fb) : Int) := by omega
   have HX : Hid (entErr (k, (gc, gp), (li, lc, lu, lk), (fz, fr, fb), (tz, tr, tb), n) = placeErr (fz, fr, fb)) := by
    show _ = _
    rw [HV.out]
    unfold pieceErr fromErr toErr numErr kFrom kTo
    simp [h1, h2]
   have HQ : Hid (((entErr (k, (gc, gp), (li, lc, lu, lk), (fz, fr, fb), (tz, tr, tb), n) : Nat) : Int) = ((placeErr (fz, fr, fb) : Nat) : Int)) := by
    show _ = _
    rw [HX.out]
   generalize (placeErr (fz, fr, fb) : Int) = E at *
   go_enter Tryz.func60, Tryz.ntmps60
   go_wp2_with (first | (go_at_call 88; refine (hK _).mono ?_; rintro e w1 ⟨rfl, rfl⟩) | (go_at_call 43; refine (hN _).mono ?_; rintro e w1 ⟨rfl, rfl⟩) | (go_at_call 91; refine (hF _).mono ?_; rintro e w1 ⟨rfl, rfl⟩) | (go_at_call 92; refine (hT _).mono ?_; rintro e w1 ⟨rfl, rfl⟩) | (go_at_call_of 42 (Value.agg #[.string fz, .int .i64 fr, .int .i64 fb]); refine (hPf _).mono ?_; rintro e w2 ⟨rfl, hb2⟩; have hbw2 := HB.out.trans (hb2.mono HB.out.size); have hE2 := HE.out.below hb2; have hP2 := HP.out.below hb2; obtain ⟨c0, c1, c2, c3, c4, c5, c6, c7, c8, c9, c10, c11, c12, c13⟩ := hE2.at; obtain ⟨s0, s1, s2⟩ := hP2; unfold zeroP at s0 s1 s2; simp only at c0 c1 c2 c3 c4 c5 c6 c7 c8 c9 c10 c11 c12 c13 s0 s1 s2))
   go_ret
   exact ⟨by rw [HQ.out]; rfl, hbw2⟩
  have h2 : placeErr (fz, fr, fb) = 0 := Classical.not_not.1 h2n
  clear h2n
  rw [h2] at hPf
  by_cases h4 : n < 1
  ·have h5 : numW n = false := by unfold numW; simp; omega
   have HX : Hid (entErr (k, (gc, gp), (li, lc, lu, lk), (fz, fr, fb), (tz, tr, tb), n) = 2) := by
    show _ = _
    rw [HV.out]
    unfold pieceErr fromErr toErr numErr kFrom kTo
    simp [h1, h2, h5]
   go_enter Tryz.func60, Tryz.ntmps60
   go_wp2_with (first | (go_at_call 88; refine (hK _).mono ?_; rintro e w1 ⟨rfl, rfl⟩) | (go_at_call 43; refine (hN _).mono ?_; rintro e w1 ⟨rfl, rfl⟩) | (go_at_call 91; refine (hF _).mono ?_; rintro e w1 ⟨rfl, rfl⟩) | (go_at_call 92; refine (hT _).mono ?_; rintro e w1 ⟨rfl, rfl⟩) | (go_at_call_of 42 (Value.agg #[.string fz, .int .i64 fr, .int .i64 fb]); refine (hPf _).mono ?_; rintro e w2 ⟨rfl, hb2⟩; have hbw2 := HB.out.trans (hb2.mono HB.out.size); have hE2 := HE.out.below hb2; have hP2 := HP.out.below hb2; obtain ⟨c0, c1, c2, c3, c4, c5, c6, c7, c8, c9, c10, c11, c12, c13⟩ := hE2.at; obtain ⟨s0, s1, s2⟩ := hP2; unfold zeroP at s0 s1 s2; simp only at c0 c1 c2 c3 c4 c5 c6 c7 c8 c9 c10 c11 c12 c13 s0 s1 s2))
   go_ret
   exact ⟨by rw [HX.out]; rfl, hbw2⟩
  by_cases h4' : 1099511627776 < n
  ·have h5 : numW n = false := by unfold numW; simp; omega
   have h4n : 1 ≤ n := by omega
   have HX : Hid (entErr (k, (gc, gp), (li, lc, lu, lk), (fz, fr, fb), (tz, tr, tb), n) = 2) := by
    show _ = _
    rw [HV.out]
    unfold pieceErr fromErr toErr numErr kFrom kTo
    simp [h1, h2, h5]
   clear h4
   go_enter Tryz.func60, Tryz.ntmps60
   go_wp2_with (first | (go_at_call 88; refine (hK _).mono ?_; rintro e w1 ⟨rfl, rfl⟩) | (go_at_call 43; refine (hN _).mono ?_; rintro e w1 ⟨rfl, rfl⟩) | (go_at_call 91; refine (hF _).mono ?_; rintro e w1 ⟨rfl, rfl⟩) | (go_at_call 92; refine (hT _).mono ?_; rintro e w1 ⟨rfl, rfl⟩) | (go_at_call_of 42 (Value.agg #[.string fz, .int .i64 fr, .int .i64 fb]); refine (hPf _).mono ?_; rintro e w2 ⟨rfl, hb2⟩; have hbw2 := HB.out.trans (hb2.mono HB.out.size); have hE2 := HE.out.below hb2; have hP2 := HP.out.below hb2; obtain ⟨c0, c1, c2, c3, c4, c5, c6, c7, c8, c9, c10, c11, c12, c13⟩ := hE2.at; obtain ⟨s0, s1, s2⟩ := hP2; unfold zeroP at s0 s1 s2; simp only at c0 c1 c2 c3 c4 c5 c6 c7 c8 c9 c10 c11 c12 c13 s0 s1 s2))
   go_ret
   exact ⟨by rw [HX.out]; rfl, hbw2⟩
  have h5 : numW n = true := by unfold numW; simp; omega
  have h4a : 1 ≤ n := by omega
  have h4b : n ≤ 1099511627776 := by omega
  clear h4 h4'
  by_cases h8n : ¬ (((tz, tr, tb) : Pl) = zeroP)
  ·have h8 : ¬ (((tz, tr, tb) : Pl) = zeroP) := h8n
   clear h8n
   rw [decide_eq_false h8] at q3
   unfold zeroP at q3
   simp only at q3
   have HX : Hid (entErr (k, (gc, gp), (li, lc, lu, lk), (fz, fr, fb), (tz, tr, tb), n) = 3) := by
    show _ = _
    rw [HV.out]
    unfold pieceErr fromErr toErr numErr kFrom kTo
    simp [h1, h2, h5, h8]
   clear h8
   go_enter Tryz.func60, Tryz.ntmps60
   go_wp2_with (first | (go_at_call 88; refine (hK _).mono ?_; rintro e w1 ⟨rfl, rfl⟩) | (go_at_call 43; refine (hN _).mono ?_; rintro e w1 ⟨rfl, rfl⟩) | (go_at_call 91; refine (hF _).mono ?_; rintro e w1 ⟨rfl, rfl⟩) | (go_at_call 92; refine (hT _).mono ?_; rintro e w1 ⟨rfl, rfl⟩) | (go_at_call_of 42 (Value.agg #[.string fz, .int .i64 fr, .int .i64 fb]); refine (hPf _).mono ?_; rintro e w2 ⟨rfl, hb2⟩; have hbw2 := HB.out.trans (hb2.mono HB.out.size); have hE2 := HE.out.below hb2; have hP2 := HP.out.below hb2; obtain ⟨c0, c1, c2, c3, c4, c5, c6, c7, c8, c9, c10, c11, c12, c13⟩ := hE2.at; obtain ⟨s0, s1, s2⟩ := hP2; unfold zeroP at s0 s1 s2; simp only at c0 c1 c2 c3 c4 c5 c6 c7 c8 c9 c10 c11 c12 c13 s0 s1 s2))
   go_ret
   exact ⟨by rw [HX.out]; rfl, hbw2⟩
  have h8 : ((tz, tr, tb) : Pl) = zeroP := Classical.not_not.1 h8n
  clear h8n
  rw [decide_eq_true h8] at q3
  unfold zeroP at q3
  simp only at q3
  by_cases h9n : ¬ (((gc, gp) : Gd) = zeroG)
  ·have h9 : ¬ (((gc, gp) : Gd) = zeroG) := h9n
   clear h9n
   rw [decide_eq_false h9] at q1
   unfold zeroG at q1
   simp only at q1
   have HX : Hid (entErr (k, (gc, gp), (li, lc, lu, lk), (fz, fr, fb), (tz, tr, tb), n) = 3) := by
    show _ = _
    rw [HV.out]
    unfold pieceErr fromErr toErr numErr kFrom kTo
    simp [h1, h2, h5, h8, h9]
   clear h9
   go_enter Tryz.func60, Tryz.ntmps60
   go_wp2_with (first | (go_at_call 88; refine (hK _).mono ?_; rintro e w1 ⟨rfl, rfl⟩) | (go_at_call 43; refine (hN _).mono ?_; rintro e w1 ⟨rfl, rfl⟩) | (go_at_call 91; refine (hF _).mono ?_; rintro e w1 ⟨rfl, rfl⟩) | (go_at_call 92; refine (hT _).mono ?_; rintro e w1 ⟨rfl, rfl⟩) | (go_at_call_of 42 (Value.agg #[.string fz, .int .i64 fr, .int .i64 fb]); refine (hPf _).mono ?_; rintro e w2 ⟨rfl, hb2⟩; have hbw2 := HB.out.trans (hb2.mono HB.out.size); have hE2 := HE.out.below hb2; have hP2 := HP.out.below hb2; obtain ⟨c0, c1, c2, c3, c4, c5, c6, c7, c8, c9, c10, c11, c12, c13⟩ := hE2.at; obtain ⟨s0, s1, s2⟩ := hP2; unfold zeroP at s0 s1 s2; simp only at c0 c1 c2 c3 c4 c5 c6 c7 c8 c9 c10 c11 c12 c13 s0 s1 s2))
   go_ret
   exact ⟨by rw [HX.out]; rfl, hbw2⟩
  have h9 : ((gc, gp) : Gd) = zeroG := Classical.not_not.1 h9n
  clear h9n
  rw [decide_eq_true h9] at q1
  unfold zeroG at q1
  simp only at q1
  by_cases hAn : ¬ (lc = ⟨#[]⟩)
  ·have hA : ¬ (lc = ⟨#[]⟩) := hAn
   clear hAn
   have hr : lotRest (li, lc, lu, lk) = false := by unfold lotRest; simp [hA]
   have HX : Hid (entErr (k, (gc, gp), (li, lc, lu, lk), (fz, fr, fb), (tz, tr, tb), n) = 3) := by
    show _ = _
    rw [HV.out]
    unfold pieceErr fromErr toErr numErr kFrom kTo
    simp [h1, h2, h5, h8, h9, hr]
   have hpos : 0 < lc.size := by
    rcases Nat.eq_zero_or_pos lc.size with h | h
    ·exact absurd (bytes_nil h) hA
    ·exact h
   have e3 := isEmpty_of lc hpos
   clear hA hr h8 h9
   go_enter Tryz.func60, Tryz.ntmps60
   go_wp2_with (first | (go_at_call 88; refine (hK _).mono ?_; rintro e w1 ⟨rfl, rfl⟩) | (go_at_call 43; refine (hN _).mono ?_; rintro e w1 ⟨rfl, rfl⟩) | (go_at_call 91; refine (hF _).mono ?_; rintro e w1 ⟨rfl, rfl⟩) | (go_at_call 92; refine (hT _).mono ?_; rintro e w1 ⟨rfl, rfl⟩) | (go_at_call_of 42 (Value.agg #[.string fz, .int .i64 fr, .int .i64 fb]); refine (hPf _).mono ?_; rintro e w2 ⟨rfl, hb2⟩; have hbw2 := HB.out.trans (hb2.mono HB.out.size); have hE2 := HE.out.below hb2; have hP2 := HP.out.below hb2; obtain ⟨c0, c1, c2, c3, c4, c5, c6, c7, c8, c9, c10, c11, c12, c13⟩ := hE2.at; obtain ⟨s0, s1, s2⟩ := hP2; unfold zeroP at s0 s1 s2; simp only at c0 c1 c2 c3 c4 c5 c6 c7 c8 c9 c10 c11 c12 c13 s0 s1 s2))
   go_ret
   exact ⟨by rw [HX.out]; rfl, hbw2⟩
  have hA : lc = ⟨#[]⟩ := Classical.not_not.1 hAn
  clear hAn
  by_cases hCn : ¬ (lu = 0)
  ·have hC : ¬ (lu = 0) := hCn
   clear hCn
   have hr : lotRest (li, lc, lu, lk) = false := by unfold lotRest; simp [hC]
   have HX : Hid (entErr (k, (gc, gp), (li, lc, lu, lk), (fz, fr, fb), (tz, tr, tb), n) = 3) := by
    show _ = _
    rw [HV.out]
    unfold pieceErr fromErr toErr numErr kFrom kTo
    simp [h1, h2, h5, h8, h9, hr]
   have e3 : (lu == 0) = false := by simpa using hC
   subst hA
   clear hC hr h8 h9
   go_enter Tryz.func60, Tryz.ntmps60
   go_wp2_with (first | (go_at_call 88; refine (hK _).mono ?_; rintro e w1 ⟨rfl, rfl⟩) | (go_at_call 43; refine (hN _).mono ?_; rintro e w1 ⟨rfl, rfl⟩) | (go_at_call 91; refine (hF _).mono ?_; rintro e w1 ⟨rfl, rfl⟩) | (go_at_call 92; refine (hT _).mono ?_; rintro e w1 ⟨rfl, rfl⟩) | (go_at_call_of 42 (Value.agg #[.string fz, .int .i64 fr, .int .i64 fb]); refine (hPf _).mono ?_; rintro e w2 ⟨rfl, hb2⟩; have hbw2 := HB.out.trans (hb2.mono HB.out.size); have hE2 := HE.out.below hb2; have hP2 := HP.out.below hb2; obtain ⟨c0, c1, c2, c3, c4, c5, c6, c7, c8, c9, c10, c11, c12, c13⟩ := hE2.at; obtain ⟨s0, s1, s2⟩ := hP2; unfold zeroP at s0 s1 s2; simp only at c0 c1 c2 c3 c4 c5 c6 c7 c8 c9 c10 c11 c12 c13 s0 s1 s2))
   go_ret
   exact ⟨by rw [HX.out]; rfl, hbw2⟩
  have hC : lu = 0 := Classical.not_not.1 hCn
  clear hCn
  by_cases hDn : ¬ (lk = 0)
  ·have hD : ¬ (lk = 0) := hDn
   clear hDn
   have hr : lotRest (li, lc, lu, lk) = false := by unfold lotRest; simp [hD]
   have HX : Hid (entErr (k, (gc, gp), (li, lc, lu, lk), (fz, fr, fb), (tz, tr, tb), n) = 3) := by
    show _ = _
    rw [HV.out]
    unfold pieceErr fromErr toErr numErr kFrom kTo
    simp [h1, h2, h5, h8, h9, hr]
   have e3 : (lk == 0) = false := by simpa using hD
   subst hA hC
   clear hD hr h8 h9
   go_enter Tryz.func60, Tryz.ntmps60
   go_wp2_with (first | (go_at_call 88; refine (hK _).mono ?_; rintro e w1 ⟨rfl, rfl⟩) | (go_at_call 43; refine (hN _).mono ?_; rintro e w1 ⟨rfl, rfl⟩) | (go_at_call 91; refine (hF _).mono ?_; rintro e w1 ⟨rfl, rfl⟩) | (go_at_call 92; refine (hT _).mono ?_; rintro e w1 ⟨rfl, rfl⟩) | (go_at_call_of 42 (Value.agg #[.string fz, .int .i64 fr, .int .i64 fb]); refine (hPf _).mono ?_; rintro e w2 ⟨rfl, hb2⟩; have hbw2 := HB.out.trans (hb2.mono HB.out.size); have hE2 := HE.out.below hb2; have hP2 := HP.out.below hb2; obtain ⟨c0, c1, c2, c3, c4, c5, c6, c7, c8, c9, c10, c11, c12, c13⟩ := hE2.at; obtain ⟨s0, s1, s2⟩ := hP2; unfold zeroP at s0 s1 s2; simp only at c0 c1 c2 c3 c4 c5 c6 c7 c8 c9 c10 c11 c12 c13 s0 s1 s2))
   go_ret
   exact ⟨by rw [HX.out]; rfl, hbw2⟩
  have hD : lk = 0 := Classical.not_not.1 hDn
  clear hDn
  have hr : lotRest (li, lc, lu, lk) = true := by unfold lotRest; simp [hA, hC, hD]
  have HX : Hid (entErr (k, (gc, gp), (li, lc, lu, lk), (fz, fr, fb), (tz, tr, tb), n) = 0) := by
   show _ = _
   rw [HV.out]
   unfold pieceErr fromErr toErr numErr kFrom kTo
   simp [h1, h2, h5, h8, h9, hr]
  subst hA hC hD
  clear hr h8 h9
  go_enter Tryz.func60, Tryz.ntmps60
  go_wp2_with (first | (go_at_call 88; refine (hK _).mono ?_; rintro e w1 ⟨rfl, rfl⟩) | (go_at_call 43; refine (hN _).mono ?_; rintro e w1 ⟨rfl, rfl⟩) | (go_at_call 91; refine (hF _).mono ?_; rintro e w1 ⟨rfl, rfl⟩) | (go_at_call 92; refine (hT _).mono ?_; rintro e w1 ⟨rfl, rfl⟩) | (go_at_call_of 42 (Value.agg #[.string fz, .int .i64 fr, .int .i64 fb]); refine (hPf _).mono ?_; rintro e w2 ⟨rfl, hb2⟩; have hbw2 := HB.out.trans (hb2.mono HB.out.size); have hE2 := HE.out.below hb2; have hP2 := HP.out.below hb2; obtain ⟨c0, c1, c2, c3, c4, c5, c6, c7, c8, c9, c10, c11, c12, c13⟩ := hE2.at; obtain ⟨s0, s1, s2⟩ := hP2; unfold zeroP at s0 s1 s2; simp only at c0 c1 c2 c3 c4 c5 c6 c7 c8 c9 c10 c11 c12 c13 s0 s1 s2))
  go_ret
  exact ⟨by rw [HX.out]; rfl, hbw2⟩
end Go.Proofs.YtppodkkefegbkaaGreatDoor
