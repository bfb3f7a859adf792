/-
 What the reference's EntryError answers of an entry of pieces with no place.
-/
import Derived.Test.YtppodkkefegbkaaGreatDoorTErrB
set_option maxRecDepth 100000
set_option maxHeartbeats 16000000
namespace Go.Proofs.YtppodkkefegbkaaGreatDoor
open Go.RowKit Go.Lib Go.Sort
def lotRest (l : Lo) : Bool := decide (l.2.1 = ⟨#[]⟩) && (decide (l.2.2.1 = 0) && decide (l.2.2.2 = 0))
theorem entErr_piece {e : En} {c : Kd} (hd : kd e.1 = c) (h1 : c ≠ .goods) (h2 : c ≠ .lot) (h3 : c ≠ .other) : entErr e = if pieceErr c e = 0 then (if sameE (othersC c e) zeroE = true then 0 else 3) else pieceErr c e := by
 unfold entErr ownErr othersE
 rw [hd]
 cases c <;> first | exact absurd rfl h1 | exact absurd rfl h2 | exact absurd rfl h3 | rfl
theorem rest_eq (c : Kd) (e : En) (h1 : c ≠ .goods) (h2 : c ≠ .lot) : sameE (othersC c e) zeroE = (decide (e.2.1 = zeroG) && (lotRest e.2.2.1 && ((kFrom c || decide (e.2.2.2.1 = zeroP)) && (kTo c || decide (e.2.2.2.2.1 = zeroP))))) := by
 obtain ⟨k, g, ⟨li, lc, lu, lk⟩, f, t, n⟩ := e
 have hL : decide (((⟨#[]⟩, lc, lu, lk) : Lo) = zeroL) = lotRest (li, lc, lu, lk) := by
  unfold lotRest zeroL
  simp [Prod.ext_iff, Bool.decide_and]
 cases c
 ·exact absurd rfl h1
 ·exact absurd rfl h2
 all_goals
  unfold othersC sameE zeroE kFrom kTo
  simp only [hL]
  simp
theorem bytes_nil {x : ByteArray} (h : x.size = 0) : x = ⟨#[]⟩ := by
 obtain ⟨d⟩ := x
 have : d = #[] := Array.eq_empty_of_size_eq_zero h
 rw [this]
theorem terr_hold (e : En) (w : World) (hz : SzE e) (hk : e.1 = kHold ∨ e.1 = kFree) :
  Calls Tryz.prog 60 #[agE e] w fun r w' => r = .returned (.int .i64 (entErr e)) ∧ Below w.heap.size w w' := by
 have hB0 : Below w.heap.size w (w.alloc (celE e)) := (Below.refl _ w).alloc (Nat.le_refl _) _
 have hB1 : Below (w.alloc (celE e)).heap.size (w.alloc (celE e)) ((w.alloc (celE e)).alloc (.cells #[.string ⟨#[]⟩, .int .i64 0, .int .i64 0] 41)) := (Below.refl _ _).alloc (Nat.le_refl _) _
 have hB := hB0.trans (hB1.mono hB0.size)
 have hE := (BlkE.new w e).below hB1
 have hP := BoxAt.new (w.alloc (celE e)) zeroP 41 (w.heap.size + 1) (by simp)
 have hK := fun w => isKind_any e.1 w
 have a3 : isKd e.1 = true := by rcases hk with hk | hk <;> rw [hk] <;> decide
 rw [a3] at hK
 have hd : kd e.1 = .hold := by rcases hk with hk | hk <;> rw [hk] <;> rfl
 have hF := fun w => hasFrom_any e.1 w
 have hT := fun w => hasTo_any e.1 w
 rw [hd] at hF hT
 have hN := fun w => isName_any e.2.2.1.1 w hz.li
 have hg : (e.1.toList == kGoods.data.toList) = false := other_word (by rcases hk with hk | hk <;> rw [hk] <;> decide)
 have hl : (e.1.toList == kLot.data.toList) = false := other_word (by rcases hk with hk | hk <;> rw [hk] <;> decide)
 have hm : (e.1.toList == kMove.data.toList) = false := other_word (by rcases hk with hk | hk <;> rw [hk] <;> decide)
 have q2 := fun W => eqPl10 e.2.2.2.1 zeroP W
 have q3 := fun W => eqPl10 e.2.2.2.2.1 zeroP W
 have q1 := fun W => eqG10 e.2.1 zeroG W
 have g1 := Tryz.guardGo
 have g2 := Tryz.guardPl
 have he := entErr_piece (c := .hold) (e := e) hd (by nofun) (by nofun) (by nofun)
 rw [rest_eq .hold e (by nofun) (by nofun)] at he
 have HV : Hid (entErr e = _) := he
 have lsz : e.2.2.1.2.1.size ≤ maxLen := hz.lc
 clear hz hk a3 hd he hB0 hB1
 unfold kFrom at hF
 unfold kTo at hT
 obtain ⟨k, ⟨gc, gp⟩, ⟨li, lc, lu, lk⟩, ⟨fz, fr, fb⟩, ⟨tz, tr, tb⟩, n⟩ := e
 unfold agE celE at *
 simp only at *
 obtain ⟨a0, a1, a2, a3, a4, a5, a6, a7, a8, a9, a10, a11, a12, a13⟩ := hE.at
 obtain ⟨o0, o1, o2⟩ := hP
 unfold zeroP at o0 o1 o2
 simp only at a0 a1 a2 a3 a4 a5 a6 a7 a8 a9 a10 a11 a12 a13 o0 o1 o2
 have HE : Hid (BlkE _ _ _) := hE
 have HP : Hid (BoxAt _ _ _) := BoxAt.new (w.alloc (.cells #[.string k, .string gc, .int .i64 gp, .string li, .string lc, .int .i64 lu, .int .i64 lk, .string fz, .int .i64 fr, .int .i64 fb, .string tz, .int .i64 tr, .int .i64 tb, .int .i64 n] 43)) zeroP 41 (w.heap.size + 1) (by simp)
 have HB : Hid (Below _ _ _) := hB
 clear hE hB
 cases h1 : isName li.data.toList with
 | false =>
  rw [h1] at hN
  have HX : Hid (entErr (k, (gc, gp), (li, lc, lu, lk), (fz, fr, fb), (tz, tr, tb), n) = 5) := by
   show _ = _
   rw [HV.out]
   unfold pieceErr fromErr toErr numErr kFrom kTo
   simp [h1]
  go_enter Tryz.func60, Tryz.ntmps60
  go_wp2_with (first | (go_at_call 88; refine (hK _).mono ?_; rintro e w1 ⟨rfl, rfl⟩) | (go_at_call 43; refine (hN _).mono ?_; rintro e w1 ⟨rfl, rfl⟩) | (go_at_call 91; refine (hF _).mono ?_; rintro e w1 ⟨rfl, rfl⟩) | (go_at_call 92; refine (hT _).mono ?_; rintro e w1 ⟨rfl, rfl⟩))
  go_ret
  exact ⟨by rw [HX.out]; rfl, HB.out⟩
 | true =>
  rw [h1] at hN
  by_cases h4 : n < 1
  ·have h5 : numW n = false := by unfold numW; simp; omega
   have HX : Hid (entErr (k, (gc, gp), (li, lc, lu, lk), (fz, fr, fb), (tz, tr, tb), n) = 2) := by
    show _ = _
    rw [HV.out]
    unfold pieceErr fromErr toErr numErr kFrom kTo
    simp [h1, h5]
   go_enter Tryz.func60, Tryz.ntmps60
   go_wp2_with (first | (go_at_call 88; refine (hK _).mono ?_; rintro e w1 ⟨rfl, rfl⟩) | (go_at_call 43; refine (hN _).mono ?_; rintro e w1 ⟨rfl, rfl⟩) | (go_at_call 91; refine (hF _).mono ?_; rintro e w1 ⟨rfl, rfl⟩) | (go_at_call 92; refine (hT _).mono ?_; rintro e w1 ⟨rfl, rfl⟩))
   go_ret
   exact ⟨by rw [HX.out]; rfl, HB.out⟩
  by_cases h4' : 1099511627776 < n
  ·have h5 : numW n = false := by unfold numW; simp; omega
   have h4n : 1 ≤ n := by omega
   have HX : Hid (entErr (k, (gc, gp), (li, lc, lu, lk), (fz, fr, fb), (tz, tr, tb), n) = 2) := by
    show _ = _
    rw [HV.out]
    unfold pieceErr fromErr toErr numErr kFrom kTo
    simp [h1, h5]
   clear h4
   go_enter Tryz.func60, Tryz.ntmps60
   go_wp2_with (first | (go_at_call 88; refine (hK _).mono ?_; rintro e w1 ⟨rfl, rfl⟩) | (go_at_call 43; refine (hN _).mono ?_; rintro e w1 ⟨rfl, rfl⟩) | (go_at_call 91; refine (hF _).mono ?_; rintro e w1 ⟨rfl, rfl⟩) | (go_at_call 92; refine (hT _).mono ?_; rintro e w1 ⟨rfl, rfl⟩))
   go_ret
   exact ⟨by rw [HX.out]; rfl, HB.out⟩
  have h5 : numW n = true := by unfold numW; simp; omega
  have h4a : 1 ≤ n := by omega
  have h4b : n ≤ 1099511627776 := by omega
  clear h4 h4'
  by_cases h7n : ¬ (((fz, fr, fb) : Pl) = zeroP)
  ·have h7 : ¬ (((fz, fr, fb) : Pl) = zeroP) := h7n
   clear h7n
   rw [decide_eq_false h7] at q2
   unfold zeroP at q2
   simp only at q2
   have HX : Hid (entErr (k, (gc, gp), (li, lc, lu, lk), (fz, fr, fb), (tz, tr, tb), n) = 3) := by
    show _ = _
    rw [HV.out]
    unfold pieceErr fromErr toErr numErr kFrom kTo
    simp [h1, h5, h7]
   clear h7
   go_enter Tryz.func60, Tryz.ntmps60
   go_wp2_with (first | (go_at_call 88; refine (hK _).mono ?_; rintro e w1 ⟨rfl, rfl⟩) | (go_at_call 43; refine (hN _).mono ?_; rintro e w1 ⟨rfl, rfl⟩) | (go_at_call 91; refine (hF _).mono ?_; rintro e w1 ⟨rfl, rfl⟩) | (go_at_call 92; refine (hT _).mono ?_; rintro e w1 ⟨rfl, rfl⟩))
   go_ret
   exact ⟨by rw [HX.out]; rfl, HB.out⟩
  have h7 : ((fz, fr, fb) : Pl) = zeroP := Classical.not_not.1 h7n
  clear h7n
  rw [decide_eq_true h7] at q2
  unfold zeroP at q2
  simp only at q2
  by_cases h8n : ¬ (((tz, tr, tb) : Pl) = zeroP)
  ·have h8 : ¬ (((tz, tr, tb) : Pl) = zeroP) := h8n
   clear h8n
   rw [decide_eq_false h8] at q3
   unfold zeroP at q3
   simp only at q3
   have HX : Hid (entErr (k, (gc, gp), (li, lc, lu, lk), (fz, fr, fb), (tz, tr, tb), n) = 3) := by
    show _ = _
    rw [HV.out]
    unfold pieceErr fromErr toErr numErr kFrom kTo
    simp [h1, h5, h7, h8]
   clear h8
   go_enter Tryz.func60, Tryz.ntmps60
   go_wp2_with (first | (go_at_call 88; refine (hK _).mono ?_; rintro e w1 ⟨rfl, rfl⟩) | (go_at_call 43; refine (hN _).mono ?_; rintro e w1 ⟨rfl, rfl⟩) | (go_at_call 91; refine (hF _).mono ?_; rintro e w1 ⟨rfl, rfl⟩) | (go_at_call 92; refine (hT _).mono ?_; rintro e w1 ⟨rfl, rfl⟩))
   go_ret
   exact ⟨by rw [HX.out]; rfl, HB.out⟩
  have h8 : ((tz, tr, tb) : Pl) = zeroP := Classical.not_not.1 h8n
  clear h8n
  rw [decide_eq_true h8] at q3
  unfold zeroP at q3
  simp only at q3
  by_cases h9n : ¬ (((gc, gp) : Gd) = zeroG)
  ·have h9 : ¬ (((gc, gp) : Gd) = zeroG) := h9n
   clear h9n
   rw [decide_eq_false h9] at q1
   unfold zeroG at q1
   simp only at q1
   have HX : Hid (entErr (k, (gc, gp), (li, lc, lu, lk), (fz, fr, fb), (tz, tr, tb), n) = 3) := by
    show _ = _
    rw [HV.out]
    unfold pieceErr fromErr toErr numErr kFrom kTo
    simp [h1, h5, h7, h8, h9]
   clear h9
   go_enter Tryz.func60, Tryz.ntmps60
   go_wp2_with (first | (go_at_call 88; refine (hK _).mono ?_; rintro e w1 ⟨rfl, rfl⟩) | (go_at_call 43; refine (hN _).mono ?_; rintro e w1 ⟨rfl, rfl⟩) | (go_at_call 91; refine (hF _).mono ?_; rintro e w1 ⟨rfl, rfl⟩) | (go_at_call 92; refine (hT _).mono ?_; rintro e w1 ⟨rfl, rfl⟩))
   go_ret
   exact ⟨by rw [HX.out]; rfl, HB.out⟩
  have h9 : ((gc, gp) : Gd) = zeroG := Classical.not_not.1 h9n
  clear h9n
  rw [decide_eq_true h9] at q1
  unfold zeroG at q1
  simp only at q1
  by_cases hAn : ¬ (lc = ⟨#[]⟩)
  ·have hA : ¬ (lc = ⟨#[]⟩) := hAn
   clear hAn
   have hr : lotRest (li, lc, lu, lk) = false := by unfold lotRest; simp [hA]
   have HX : Hid (entErr (k, (gc, gp), (li, lc, lu, lk), (fz, fr, fb), (tz, tr, tb), n) = 3) := by
    show _ = _
    rw [HV.out]
    unfold pieceErr fromErr toErr numErr kFrom kTo
    simp [h1, h5, h7, h8, h9, hr]
   have hpos : 0 < lc.size := by
    rcases Nat.eq_zero_or_pos lc.size with h | h
    ·exact absurd (bytes_nil h) hA
    ·exact h
   have e3 := isEmpty_of lc hpos
   clear hA hr h7 h8 h9
   go_enter Tryz.func60, Tryz.ntmps60
   go_wp2_with (first | (go_at_call 88; refine (hK _).mono ?_; rintro e w1 ⟨rfl, rfl⟩) | (go_at_call 43; refine (hN _).mono ?_; rintro e w1 ⟨rfl, rfl⟩) | (go_at_call 91; refine (hF _).mono ?_; rintro e w1 ⟨rfl, rfl⟩) | (go_at_call 92; refine (hT _).mono ?_; rintro e w1 ⟨rfl, rfl⟩))
   go_ret
   exact ⟨by rw [HX.out]; rfl, HB.out⟩
  have hA : lc = ⟨#[]⟩ := Classical.not_not.1 hAn
  clear hAn
  by_cases hCn : ¬ (lu = 0)
  ·have hC : ¬ (lu = 0) := hCn
   clear hCn
   have hr : lotRest (li, lc, lu, lk) = false := by unfold lotRest; simp [hC]
   have HX : Hid (entErr (k, (gc, gp), (li, lc, lu, lk), (fz, fr, fb), (tz, tr, tb), n) = 3) := by
    show _ = _
    rw [HV.out]
    unfold pieceErr fromErr toErr numErr kFrom kTo
    simp [h1, h5, h7, h8, h9, hr]
   have e3 : (lu == 0) = false := by simpa using hC
   subst hA
   clear hC hr h7 h8 h9
   go_enter Tryz.func60, Tryz.ntmps60
   go_wp2_with (first | (go_at_call 88; refine (hK _).mono ?_; rintro e w1 ⟨rfl, rfl⟩) | (go_at_call 43; refine (hN _).mono ?_; rintro e w1 ⟨rfl, rfl⟩) | (go_at_call 91; refine (hF _).mono ?_; rintro e w1 ⟨rfl, rfl⟩) | (go_at_call 92; refine (hT _).mono ?_; rintro e w1 ⟨rfl, rfl⟩))
   go_ret
   exact ⟨by rw [HX.out]; rfl, HB.out⟩
  have hC : lu = 0 := Classical.not_not.1 hCn
  clear hCn
  by_cases hDn : ¬ (lk = 0)
  ·have hD : ¬ (lk = 0) := hDn
   clear hDn
   have hr : lotRest (li, lc, lu, lk) = false := by unfold lotRest; simp [hD]
   have HX : Hid (entErr (k, (gc, gp), (li, lc, lu, lk), (fz, fr, fb), (tz, tr, tb), n) = 3) := by
    show _ = _
    rw [HV.out]
    unfold pieceErr fromErr toErr numErr kFrom kTo
    simp [h1, h5, h7, h8, h9, hr]
   have e3 : (lk == 0) = false := by simpa using hD
   subst hA hC
   clear hD hr h7 h8 h9
   go_enter Tryz.func60, Tryz.ntmps60
   go_wp2_with (first | (go_at_call 88; refine (hK _).mono ?_; rintro e w1 ⟨rfl, rfl⟩) | (go_at_call 43; refine (hN _).mono ?_; rintro e w1 ⟨rfl, rfl⟩) | (go_at_call 91; refine (hF _).mono ?_; rintro e w1 ⟨rfl, rfl⟩) | (go_at_call 92; refine (hT _).mono ?_; rintro e w1 ⟨rfl, rfl⟩))
   go_ret
   exact ⟨by rw [HX.out]; rfl, HB.out⟩
  have hD : lk = 0 := Classical.not_not.1 hDn
  clear hDn
  have hr : lotRest (li, lc, lu, lk) = true := by unfold lotRest; simp [hA, hC, hD]
  have HX : Hid (entErr (k, (gc, gp), (li, lc, lu, lk), (fz, fr, fb), (tz, tr, tb), n) = 0) := by
   show _ = _
   rw [HV.out]
   unfold pieceErr fromErr toErr numErr kFrom kTo
   simp [h1, h5, h7, h8, h9, hr]
  subst hA hC hD
  clear hr h7 h8 h9
  go_enter Tryz.func60, Tryz.ntmps60
  go_wp2_with (first | (go_at_call 88; refine (hK _).mono ?_; rintro e w1 ⟨rfl, rfl⟩) | (go_at_call 43; refine (hN _).mono ?_; rintro e w1 ⟨rfl, rfl⟩) | (go_at_call 91; refine (hF _).mono ?_; rintro e w1 ⟨rfl, rfl⟩) | (go_at_call 92; refine (hT _).mono ?_; rintro e w1 ⟨rfl, rfl⟩))
  go_ret
  exact ⟨by rw [HX.out]; rfl, HB.out⟩
end Go.Proofs.YtppodkkefegbkaaGreatDoor
