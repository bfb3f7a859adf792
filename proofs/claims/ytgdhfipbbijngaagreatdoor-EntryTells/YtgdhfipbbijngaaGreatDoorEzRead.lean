/-
  What readGoods, readPieces, entry.parts and entry.Read answer of a text, whatever it is; over every world that holds the sentinels as the program lays them; condition: the text is shorter than 4,294,967,281 bytes. What entry.parts answers of a text of goods. What entry.parts answers of a text of a lot. What entry.parts answers of a text of pieces. What entry.parts answers of a text, whatever it is. What entry.Read answers of a text: an entry, or an error and no entry; over every world that holds the sentinels as the program lays them; condition: the text is shorter than 4,294,967,281 bytes.
-/
import Derived.Test.YtgdhfipbbijngaaGreatDoorEReadB
import Derived.Test.YtgdhfipbbijngaaGreatDoorEReadC
import Derived.Test.YtgdhfipbbijngaaGreatDoorEReadD
import Derived.Test.YtgdhfipbbijngaaGreatDoorEReadM
import Derived.Test.YtgdhfipbbijngaaGreatDoorECheck
import Derived.Test.YtgdhfipbbijngaaGreatDoorLRead
namespace Go.Proofs.YtgdhfipbbijngaaGreatDoor
open Go.RowKit Go.Lib Go.Sort

theorem same_word {k z : ByteArray} (h : k = z) : (k.toList == z.data.toList) = true := by
  have := same_eq k z
  rw [decide_eq_true h, Lib.toList_data z] at this
  exact this
theorem num1_parts {l : List UInt8} (h : num1 l = true) : has 32 l = true ∧ isNum 13 (cutB 32 l) = true := by unfold num1 tail1 at h; simpa using h
theorem num2_parts {l : List UInt8} (h : num2 l = true) : wordsK l = true ∧ isNum 13 (cutB 32 (cutB 32 l)) = true := by
  unfold num2 tail2 at h
  simp only [Bool.and_eq_true] at h
  exact ⟨by unfold wordsK; rw [h.1, h.2.1]; rfl, h.2.2⟩
theorem num3_parts {l : List UInt8} (h : num3 l = true) : three l = true ∧ isNum 13 (wd3 l) = true := by
  unfold num3 tail3 tail2 at h
  simp only [Bool.and_eq_true] at h
  exact ⟨by unfold three; rw [h.1, h.2.1, h.2.2.1]; rfl, h.2.2.2⟩
theorem rg_any (x : ByteArray) (w : World) (s : Nat → Addr) (hz : x.size < 4294967281) (hs : Es w s) :
    Calls Tryz.prog 35 #[.string x] w fun e w' => e = .returned (.tuple #[agE (partC .goods kGoods x.data.toList).1, errP s (partC .goods kGoods x.data.toList).2]) ∧ Below w.heap.size w w' := by
  cases h : num1 x.data.toList with
  | false =>
    have e : partC .goods kGoods x.data.toList = (zeroE, 1) := by unfold partC; simp only; rw [h]; rfl
    rw [e]
    exact rg_no x w s hz hs h
  | true =>
    obtain ⟨h1, h2⟩ := num1_parts h
    have e : partC .goods kGoods x.data.toList = ((kGoods, (arr (cutA 32 x.data.toList), numR 13 (cutB 32 x.data.toList)), zeroL, zeroP, zeroP, 0), 0) := by unfold partC; simp only; rw [if_pos h, numR_yes h2]; rfl
    rw [e]
    exact rg_yes x w hz h1 h2
theorem rp_any (k x : ByteArray) (w : World) (s : Nat → Addr) (hz : x.size < 4294967281) (hs : Es w s) (hg : k ≠ kGoods) (hl : k ≠ kLot) :
    Calls Tryz.prog 37 #[.string k, .string x] w fun e w' => e = .returned (.tuple #[agE (partC (kd k) k x.data.toList).1, errP s (partC (kd k) k x.data.toList).2]) ∧ Below w.heap.size w w' := by
  rcases kind_cases k with hk | hk | hk | hk | hk | hk | hk
  · exact absurd hk hg
  · exact absurd hk hl
  · have hd : kd k = .tow := by rcases hk with hk | hk <;> rw [hk] <;> rfl
    rw [hd]
    cases h : num2 x.data.toList with
    | false =>
      have e : partC .tow k x.data.toList = (zeroE, 1) := by unfold partC; simp only; rw [h]; rfl
      rw [e]
      exact rp_to_no k x w s hz hs hk h
    | true =>
      obtain ⟨h1, h2⟩ := num2_parts h
      by_cases h3 : (readP (cutA 32 (cutB 32 x.data.toList))).2 = 0
      · have e : partC .tow k x.data.toList = ((k, zeroG, (arr (cutA 32 x.data.toList), ⟨#[]⟩, 0, 0), zeroP, (readP (cutA 32 (cutB 32 x.data.toList))).1, numR 13 (cutB 32 (cutB 32 x.data.toList))), 0) := by unfold partC; simp only; rw [if_pos h, if_pos h3, numR_yes h2]; rfl
        rw [e]
        exact rp_to_ok k x w s hz hs hk h1 h2 h3
      · have e : partC .tow k x.data.toList = (zeroE, (readP (cutA 32 (cutB 32 x.data.toList))).2) := by unfold partC; simp only; rw [if_pos h, if_neg h3]
        rw [e]
        exact rp_to_err k x w s hz hs hk h1 h2 h3
  · have hd : kd k = .frm := by rcases hk with hk | hk <;> rw [hk] <;> rfl
    rw [hd]
    cases h : num2 x.data.toList with
    | false =>
      have e : partC .frm k x.data.toList = (zeroE, 1) := by unfold partC; simp only; rw [h]; rfl
      rw [e]
      exact rp_from_no k x w s hz hs hk h
    | true =>
      obtain ⟨h1, h2⟩ := num2_parts h
      by_cases h3 : (readP (cutA 32 (cutB 32 x.data.toList))).2 = 0
      · have e : partC .frm k x.data.toList = ((k, zeroG, (arr (cutA 32 x.data.toList), ⟨#[]⟩, 0, 0), (readP (cutA 32 (cutB 32 x.data.toList))).1, zeroP, numR 13 (cutB 32 (cutB 32 x.data.toList))), 0) := by unfold partC; simp only; rw [if_pos h, if_pos h3, numR_yes h2]; rfl
        rw [e]
        exact rp_from_ok k x w s hz hs hk h1 h2 h3
      · have e : partC .frm k x.data.toList = (zeroE, (readP (cutA 32 (cutB 32 x.data.toList))).2) := by unfold partC; simp only; rw [if_pos h, if_neg h3]
        rw [e]
        exact rp_from_err k x w s hz hs hk h1 h2 h3
  · have hd : kd k = .move := by rw [hk]; rfl
    rw [hd]
    cases h : num3 x.data.toList with
    | false =>
      have e : partC .move k x.data.toList = (zeroE, 1) := by unfold partC; simp only; rw [h]; rfl
      rw [e]
      exact rp_move_no k x w s hz hs hk h
    | true =>
      obtain ⟨h1, h2⟩ := num3_parts h
      by_cases h3 : (readP (cutA 32 (cutB 32 x.data.toList))).2 = 0
      · by_cases h4 : (readP (wd2 x.data.toList)).2 = 0
        · have e : partC .move k x.data.toList = ((k, zeroG, (arr (cutA 32 x.data.toList), ⟨#[]⟩, 0, 0), (readP (cutA 32 (cutB 32 x.data.toList))).1, (readP (wd2 x.data.toList)).1, numR 13 (wd3 x.data.toList)), 0) := by unfold wd2 at *; unfold partC; simp only; rw [if_pos h, if_pos h3, tail2, if_pos h4, numR_yes h2]; rfl
          rw [e]
          exact rp_move_ok k x w s hz hs hk h1 h2 h3 h4
        · have e : partC .move k x.data.toList = (zeroE, (readP (wd2 x.data.toList)).2) := by unfold wd2 at *; unfold partC; simp only; rw [if_pos h, if_pos h3, tail2, if_neg h4]
          rw [e]
          exact rp_move_err2 k x w s hz hs hk h1 h2 h3 h4
      · have e : partC .move k x.data.toList = (zeroE, (readP (cutA 32 (cutB 32 x.data.toList))).2) := by unfold partC; simp only; rw [if_pos h, if_neg h3]
        rw [e]
        exact rp_move_err1 k x w s hz hs hk h1 h2 h3
  · have hd : kd k = .hold := by rcases hk with hk | hk <;> rw [hk] <;> rfl
    rw [hd]
    cases h : num1 x.data.toList with
    | false =>
      have e : partC .hold k x.data.toList = (zeroE, 1) := by unfold partC; simp only; rw [h]; rfl
      rw [e]
      exact rp_hold_no k x w s hz hs hk h
    | true =>
      obtain ⟨h1, h2⟩ := num1_parts h
      have e : partC .hold k x.data.toList = ((k, zeroG, (arr (cutA 32 x.data.toList), ⟨#[]⟩, 0, 0), zeroP, zeroP, numR 13 (cutB 32 x.data.toList)), 0) := by unfold partC; simp only; rw [if_pos h, numR_yes h2]; rfl
      rw [e]
      exact rp_hold_ok k x w hz hk h1 h2
  · rw [hk.kd]
    exact rp_other k x w s hs hk
end Go.Proofs.YtgdhfipbbijngaaGreatDoor
namespace Go.Proofs.YtgdhfipbbijngaaGreatDoor
open Go.RowKit Go.Lib Go.Sort

set_option maxRecDepth 100000 in
set_option maxHeartbeats 8000000 in
theorem parts_goods (x : ByteArray) (w : World) (s : Nat → Addr) (hz : x.size < 4294967281) (hs : Es w s) (hk : arr (cutA 32 x.data.toList) = kGoods) :
    Calls Tryz.prog 13 #[.string x] w fun e w' => e = .returned (.tuple #[agE (partE x.data.toList).1, errP s (partE x.data.toList).2]) ∧ Below w.heap.size w w' := by
  have hB : Below w.heap.size w (w.alloc (celE zeroE)) := (Below.refl _ w).alloc (Nat.le_refl _) _
  have hE := BlkE.new w zeroE
  have hcut := scut_any x 32 (w.alloc (celE zeroE)) (by unfold maxLen; omega)
  have hl0 : x.data.toList.length < 4294967281 := by rw [size_len]; exact hz
  have q1 := cutB_le 32 x.data.toList
  have hC := fun w1 (hb : Below w.heap.size w w1) => rg_any ⟨(cutB 32 x.data.toList).toArray⟩ w1 s (by rw [mk_size]; omega) (hs.below hb)
  simp only at hC
  have e : partE x.data.toList = partC .goods kGoods (cutB 32 x.data.toList) := by unfold partE; rw [hk, kd_goods]
  rw [e]
  generalize errP s (partC .goods kGoods (cutB 32 x.data.toList)).2 = V at *
  generalize (partC .goods kGoods (cutB 32 x.data.toList)).1 = y at *
  have e1 := same_word hk
  simp only at e1
  clear hs e hk
  unfold arr at e1
  generalize (⟨(cutA 32 x.data.toList).toArray⟩ : ByteArray) = zA at *
  generalize (⟨(cutB 32 x.data.toList).toArray⟩ : ByteArray) = zB at *
  generalize has 32 x.data.toList = hh at *
  clear hz hl0 q1
  obtain ⟨yk, ⟨ygc, ygp⟩, ⟨yli, ylc, ylu, ylk⟩, ⟨yfz, yfr, yfb⟩, ⟨ytz, ytr, ytb⟩, yn⟩ := y
  unfold agE at *
  simp only at *
  have HC : Hid (∀ w1, _ → Calls Tryz.prog 35 _ _ _) := hC
  have HS : Hid (Calls Tryz.prog 34 _ _ _) := hcut
  have HB : Hid (Below _ _ _) := hB
  have HE : Hid (BlkE _ _ _) := hE
  clear hC hcut hB hE
  unfold celE zeroE zeroG zeroL zeroP at HS HB HE
  simp only at HS HB HE
  go_enter Tryz.func13, Tryz.ntmps13
  go_wp2_with (first
    | (go_at_call 34; refine HS.out.mono ?_; rintro e w1 ⟨rfl, m, rfl⟩; have hb1 := below_drewN HB.out m)
    | (go_at_call 35; refine (HC.out _ hb1).mono ?_; rintro e w2 ⟨rfl, hb2⟩; have hbw := hb1.trans (hb2.mono hb1.size); have hR2 := (HE.out.below (below_drewN (Below.refl _ _) m)).below hb2; have hfR := hR2.frozen; have hzR := hR2.lt; obtain ⟨r0, r1, r2, r3, r4, r5, r6, r7, r8, r9, r10, r11, r12, r13⟩ := hR2.at; simp only at r0 r1 r2 r3 r4 r5 r6 r7 r8 r9 r10 r11 r12 r13; clear hb2))
  have hFF : BlkE ((((((((((((((w2.setCell ⟨w.heap.size, 0, none⟩ (.string yk)).setCell ⟨w.heap.size, 1, none⟩ (.string ygc)).setCell ⟨w.heap.size, 2, none⟩ (.int .i64 ygp)).setCell ⟨w.heap.size, 3, none⟩ (.string yli)).setCell ⟨w.heap.size, 4, none⟩ (.string ylc)).setCell ⟨w.heap.size, 5, none⟩ (.int .i64 ylu)).setCell ⟨w.heap.size, 6, none⟩ (.int .i64 ylk)).setCell ⟨w.heap.size, 7, none⟩ (.string yfz)).setCell ⟨w.heap.size, 8, none⟩ (.int .i64 yfr)).setCell ⟨w.heap.size, 9, none⟩ (.int .i64 yfb)).setCell ⟨w.heap.size, 10, none⟩ (.string ytz)).setCell ⟨w.heap.size, 11, none⟩ (.int .i64 ytr)).setCell ⟨w.heap.size, 12, none⟩ (.int .i64 ytb)).setCell ⟨w.heap.size, 13, none⟩ (.int .i64 yn)) w.heap.size (yk, (ygc, ygp), (yli, ylc, ylu, ylk), (yfz, yfr, yfb), (ytz, ytr, ytb), yn) := BlkE.setE hR2 (yk, (ygc, ygp), (yli, ylc, ylu, ylk), (yfz, yfr, yfb), (ytz, ytr, ytb), yn)
  have hBF : Below w.heap.size w ((((((((((((((w2.setCell ⟨w.heap.size, 0, none⟩ (.string yk)).setCell ⟨w.heap.size, 1, none⟩ (.string ygc)).setCell ⟨w.heap.size, 2, none⟩ (.int .i64 ygp)).setCell ⟨w.heap.size, 3, none⟩ (.string yli)).setCell ⟨w.heap.size, 4, none⟩ (.string ylc)).setCell ⟨w.heap.size, 5, none⟩ (.int .i64 ylu)).setCell ⟨w.heap.size, 6, none⟩ (.int .i64 ylk)).setCell ⟨w.heap.size, 7, none⟩ (.string yfz)).setCell ⟨w.heap.size, 8, none⟩ (.int .i64 yfr)).setCell ⟨w.heap.size, 9, none⟩ (.int .i64 yfb)).setCell ⟨w.heap.size, 10, none⟩ (.string ytz)).setCell ⟨w.heap.size, 11, none⟩ (.int .i64 ytr)).setCell ⟨w.heap.size, 12, none⟩ (.int .i64 ytb)).setCell ⟨w.heap.size, 13, none⟩ (.int .i64 yn)) := below_setE hbw (Nat.le_refl _) (yk, (ygc, ygp), (yli, ylc, ylu, ylk), (yfz, yfr, yfb), (ytz, ytr, ytb), yn)
  generalize ((((((((((((((w2.setCell ⟨w.heap.size, 0, none⟩ (.string yk)).setCell ⟨w.heap.size, 1, none⟩ (.string ygc)).setCell ⟨w.heap.size, 2, none⟩ (.int .i64 ygp)).setCell ⟨w.heap.size, 3, none⟩ (.string yli)).setCell ⟨w.heap.size, 4, none⟩ (.string ylc)).setCell ⟨w.heap.size, 5, none⟩ (.int .i64 ylu)).setCell ⟨w.heap.size, 6, none⟩ (.int .i64 ylk)).setCell ⟨w.heap.size, 7, none⟩ (.string yfz)).setCell ⟨w.heap.size, 8, none⟩ (.int .i64 yfr)).setCell ⟨w.heap.size, 9, none⟩ (.int .i64 yfb)).setCell ⟨w.heap.size, 10, none⟩ (.string ytz)).setCell ⟨w.heap.size, 11, none⟩ (.int .i64 ytr)).setCell ⟨w.heap.size, 12, none⟩ (.int .i64 ytb)).setCell ⟨w.heap.size, 13, none⟩ (.int .i64 yn)) = WF at *
  obtain ⟨f0, f1, f2, f3, f4, f5, f6, f7, f8, f9, f10, f11, f12, f13⟩ := hFF.at
  simp only at f0 f1 f2 f3 f4 f5 f6 f7 f8 f9 f10 f11 f12 f13
  have hzF := hFF.lt
  exact bodyPost_ret (v := .tuple #[.agg #[.string yk, .string ygc, .int .i64 ygp, .string yli, .string ylc, .int .i64 ylu, .int .i64 ylk, .string yfz, .int .i64 yfr, .int .i64 yfb, .string ytz, .int .i64 ytr, .int .i64 ytb, .int .i64 yn], V]) (by simp [results, Tryz.results13, go_sem, f0, f1, f2, f3, f4, f5, f6, f7, f8, f9, f10, f11, f12, f13]) rfl ⟨rfl, hBF⟩
end Go.Proofs.YtgdhfipbbijngaaGreatDoor
namespace Go.Proofs.YtgdhfipbbijngaaGreatDoor
open Go.RowKit Go.Lib Go.Sort

set_option maxRecDepth 100000 in
set_option maxHeartbeats 8000000 in
theorem parts_lot (x : ByteArray) (w : World) (s : Nat → Addr) (hz : x.size < 4294967281) (hs : Es w s) (hk : arr (cutA 32 x.data.toList) = kLot) :
    Calls Tryz.prog 13 #[.string x] w fun e w' => e = .returned (.tuple #[agE (partE x.data.toList).1, errP s (partE x.data.toList).2]) ∧ Below w.heap.size w w' := by
  have hB : Below w.heap.size w (w.alloc (celE zeroE)) := (Below.refl _ w).alloc (Nat.le_refl _) _
  have hE := BlkE.new w zeroE
  have hcut := scut_any x 32 (w.alloc (celE zeroE)) (by unfold maxLen; omega)
  have hl0 : x.data.toList.length < 4294967281 := by rw [size_len]; exact hz
  have q1 := cutB_le 32 x.data.toList
  have hC := fun w1 (hb : Below w.heap.size w w1) => lread_any ⟨(cutB 32 x.data.toList).toArray⟩ w1 s (by rw [mk_size]; omega) (hs.three.below hb)
  simp only at hC
  have e : partE x.data.toList = ((kLot, zeroG, (readL (cutB 32 x.data.toList)).1, zeroP, zeroP, 0), (readL (cutB 32 x.data.toList)).2) := by unfold partE; rw [hk, kd_lot]; rfl
  rw [e]
  generalize errP s (readL (cutB 32 x.data.toList)).2 = V at *
  generalize (readL (cutB 32 x.data.toList)).1 = y at *
  have e1 : ((arr (cutA 32 x.data.toList)).toList == kGoods.data.toList) = false := other_word (by rw [hk]; decide)
  have e2 := same_word hk
  simp only at e1 e2
  clear hs e hk
  unfold arr at e1 e2
  generalize (⟨(cutA 32 x.data.toList).toArray⟩ : ByteArray) = zA at *
  generalize (⟨(cutB 32 x.data.toList).toArray⟩ : ByteArray) = zB at *
  generalize has 32 x.data.toList = hh at *
  clear hz hl0 q1
  unfold kLot
  obtain ⟨yli, ylc, ylu, ylk⟩ := y
  unfold agE agL at *
  unfold zeroG zeroP
  simp only at *
  have HC : Hid (∀ w1, _ → Calls Tryz.prog 36 _ _ _) := hC
  have HS : Hid (Calls Tryz.prog 34 _ _ _) := hcut
  have HB : Hid (Below _ _ _) := hB
  have HE : Hid (BlkE _ _ _) := hE
  clear hC hcut hB hE
  unfold celE zeroE zeroG zeroL zeroP at HS HB HE
  simp only at HS HB HE
  go_enter Tryz.func13, Tryz.ntmps13
  go_wp2_with (first
    | (go_at_call 34; refine HS.out.mono ?_; rintro e w1 ⟨rfl, m, rfl⟩; have hb1 := below_drewN HB.out m)
    | (go_at_call 36; refine (HC.out _ hb1).mono ?_; rintro e w2 ⟨rfl, hb2⟩; have hbw := hb1.trans (hb2.mono hb1.size); have hR2 := (HE.out.below (below_drewN (Below.refl _ _) m)).below hb2; have hfR := hR2.frozen; have hzR := hR2.lt; obtain ⟨W3, hW3⟩ : ∃ W3, W3 = w2.alloc (.cells #[.string yli, .string ylc, .int .i64 ylu, .int .i64 ylk] 25) := ⟨_, rfl⟩; have hal := hW3.symm; have hb3 : Below w2.heap.size w2 W3 := (by rw [hW3]; exact (Below.refl _ _).alloc (Nat.le_refl _) _); have hbw3 := hbw.trans (hb3.mono hbw.size); have hL3 : BoxL w2.heap.size (yli, ylc, ylu, ylk) W3 := (by rw [hW3]; exact BoxL.new w2 _ _ rfl); obtain ⟨l0, l1, l2, l3⟩ := hL3; simp only at l0 l1 l2 l3; have hR3 := hR2.below hb3; have hfR3 := hR3.frozen; clear hW3 hb3; obtain ⟨r0, r1, r2, r3, r4, r5, r6, r7, r8, r9, r10, r11, r12, r13⟩ := hR3.at; simp only at r0 r1 r2 r3 r4 r5 r6 r7 r8 r9 r10 r11 r12 r13; clear hb2))
  have hFF : BlkE ((((((((((((((W3.setCell ⟨w.heap.size, 0, none⟩ (.string (⟨#[108, 111, 116]⟩ : ByteArray))).setCell ⟨w.heap.size, 1, none⟩ (.string ⟨#[]⟩)).setCell ⟨w.heap.size, 2, none⟩ (.int .i64 0)).setCell ⟨w.heap.size, 3, none⟩ (.string yli)).setCell ⟨w.heap.size, 4, none⟩ (.string ylc)).setCell ⟨w.heap.size, 5, none⟩ (.int .i64 ylu)).setCell ⟨w.heap.size, 6, none⟩ (.int .i64 ylk)).setCell ⟨w.heap.size, 7, none⟩ (.string ⟨#[]⟩)).setCell ⟨w.heap.size, 8, none⟩ (.int .i64 0)).setCell ⟨w.heap.size, 9, none⟩ (.int .i64 0)).setCell ⟨w.heap.size, 10, none⟩ (.string ⟨#[]⟩)).setCell ⟨w.heap.size, 11, none⟩ (.int .i64 0)).setCell ⟨w.heap.size, 12, none⟩ (.int .i64 0)).setCell ⟨w.heap.size, 13, none⟩ (.int .i64 0)) w.heap.size ((⟨#[108, 111, 116]⟩ : ByteArray), (⟨#[]⟩, 0), (yli, ylc, ylu, ylk), (⟨#[]⟩, 0, 0), (⟨#[]⟩, 0, 0), 0) := BlkE.setE hR3 ((⟨#[108, 111, 116]⟩ : ByteArray), (⟨#[]⟩, 0), (yli, ylc, ylu, ylk), (⟨#[]⟩, 0, 0), (⟨#[]⟩, 0, 0), 0)
  have hBF : Below w.heap.size w ((((((((((((((W3.setCell ⟨w.heap.size, 0, none⟩ (.string (⟨#[108, 111, 116]⟩ : ByteArray))).setCell ⟨w.heap.size, 1, none⟩ (.string ⟨#[]⟩)).setCell ⟨w.heap.size, 2, none⟩ (.int .i64 0)).setCell ⟨w.heap.size, 3, none⟩ (.string yli)).setCell ⟨w.heap.size, 4, none⟩ (.string ylc)).setCell ⟨w.heap.size, 5, none⟩ (.int .i64 ylu)).setCell ⟨w.heap.size, 6, none⟩ (.int .i64 ylk)).setCell ⟨w.heap.size, 7, none⟩ (.string ⟨#[]⟩)).setCell ⟨w.heap.size, 8, none⟩ (.int .i64 0)).setCell ⟨w.heap.size, 9, none⟩ (.int .i64 0)).setCell ⟨w.heap.size, 10, none⟩ (.string ⟨#[]⟩)).setCell ⟨w.heap.size, 11, none⟩ (.int .i64 0)).setCell ⟨w.heap.size, 12, none⟩ (.int .i64 0)).setCell ⟨w.heap.size, 13, none⟩ (.int .i64 0)) := below_setE hbw3 (Nat.le_refl _) ((⟨#[108, 111, 116]⟩ : ByteArray), (⟨#[]⟩, 0), (yli, ylc, ylu, ylk), (⟨#[]⟩, 0, 0), (⟨#[]⟩, 0, 0), 0)
  generalize ((((((((((((((W3.setCell ⟨w.heap.size, 0, none⟩ (.string (⟨#[108, 111, 116]⟩ : ByteArray))).setCell ⟨w.heap.size, 1, none⟩ (.string ⟨#[]⟩)).setCell ⟨w.heap.size, 2, none⟩ (.int .i64 0)).setCell ⟨w.heap.size, 3, none⟩ (.string yli)).setCell ⟨w.heap.size, 4, none⟩ (.string ylc)).setCell ⟨w.heap.size, 5, none⟩ (.int .i64 ylu)).setCell ⟨w.heap.size, 6, none⟩ (.int .i64 ylk)).setCell ⟨w.heap.size, 7, none⟩ (.string ⟨#[]⟩)).setCell ⟨w.heap.size, 8, none⟩ (.int .i64 0)).setCell ⟨w.heap.size, 9, none⟩ (.int .i64 0)).setCell ⟨w.heap.size, 10, none⟩ (.string ⟨#[]⟩)).setCell ⟨w.heap.size, 11, none⟩ (.int .i64 0)).setCell ⟨w.heap.size, 12, none⟩ (.int .i64 0)).setCell ⟨w.heap.size, 13, none⟩ (.int .i64 0)) = WF at *
  generalize (⟨#[108, 111, 116]⟩ : ByteArray) = kl at *
  obtain ⟨f0, f1, f2, f3, f4, f5, f6, f7, f8, f9, f10, f11, f12, f13⟩ := hFF.at
  simp only at f0 f1 f2 f3 f4 f5 f6 f7 f8 f9 f10 f11 f12 f13
  have hzF := hFF.lt
  exact bodyPost_ret (v := .tuple #[.agg #[.string kl, .string ⟨#[]⟩, .int .i64 0, .string yli, .string ylc, .int .i64 ylu, .int .i64 ylk, .string ⟨#[]⟩, .int .i64 0, .int .i64 0, .string ⟨#[]⟩, .int .i64 0, .int .i64 0, .int .i64 0], V]) (by simp [results, Tryz.results13, go_sem, f0, f1, f2, f3, f4, f5, f6, f7, f8, f9, f10, f11, f12, f13]) rfl ⟨rfl, hBF⟩
end Go.Proofs.YtgdhfipbbijngaaGreatDoor
namespace Go.Proofs.YtgdhfipbbijngaaGreatDoor
open Go.RowKit Go.Lib Go.Sort

set_option maxRecDepth 100000 in
set_option maxHeartbeats 8000000 in
theorem parts_pieces (x : ByteArray) (w : World) (s : Nat → Addr) (hz : x.size < 4294967281) (hs : Es w s) (h1 : arr (cutA 32 x.data.toList) ≠ kGoods) (h2 : arr (cutA 32 x.data.toList) ≠ kLot) :
    Calls Tryz.prog 13 #[.string x] w fun e w' => e = .returned (.tuple #[agE (partE x.data.toList).1, errP s (partE x.data.toList).2]) ∧ Below w.heap.size w w' := by
  have hB : Below w.heap.size w (w.alloc (celE zeroE)) := (Below.refl _ w).alloc (Nat.le_refl _) _
  have hE := BlkE.new w zeroE
  have hcut := scut_any x 32 (w.alloc (celE zeroE)) (by unfold maxLen; omega)
  have hl0 : x.data.toList.length < 4294967281 := by rw [size_len]; exact hz
  have q1 := cutB_le 32 x.data.toList
  have hC := fun w1 (hb : Below w.heap.size w w1) => rp_any (arr (cutA 32 x.data.toList)) ⟨(cutB 32 x.data.toList).toArray⟩ w1 s (by rw [mk_size]; omega) (hs.below hb) h1 h2
  simp only at hC
  have e : partE x.data.toList = partC (kd (arr (cutA 32 x.data.toList))) (arr (cutA 32 x.data.toList)) (cutB 32 x.data.toList) := rfl
  rw [e]
  generalize errP s (partC (kd (arr (cutA 32 x.data.toList))) (arr (cutA 32 x.data.toList)) (cutB 32 x.data.toList)).2 = V at *
  generalize (partC (kd (arr (cutA 32 x.data.toList))) (arr (cutA 32 x.data.toList)) (cutB 32 x.data.toList)).1 = y at *
  have e1 := other_word h1
  have e2 := other_word h2
  simp only at e1 e2
  clear hs e h1 h2
  unfold arr at *
  generalize (⟨(cutA 32 x.data.toList).toArray⟩ : ByteArray) = zA at *
  generalize (⟨(cutB 32 x.data.toList).toArray⟩ : ByteArray) = zB at *
  generalize has 32 x.data.toList = hh at *
  clear hz hl0 q1
  obtain ⟨yk, ⟨ygc, ygp⟩, ⟨yli, ylc, ylu, ylk⟩, ⟨yfz, yfr, yfb⟩, ⟨ytz, ytr, ytb⟩, yn⟩ := y
  unfold agE at *
  simp only at *
  have HC : Hid (∀ w1, _ → Calls Tryz.prog 37 _ _ _) := hC
  have HS : Hid (Calls Tryz.prog 34 _ _ _) := hcut
  have HB : Hid (Below _ _ _) := hB
  have HE : Hid (BlkE _ _ _) := hE
  clear hC hcut hB hE
  unfold celE zeroE zeroG zeroL zeroP at HS HB HE
  simp only at HS HB HE
  go_enter Tryz.func13, Tryz.ntmps13
  go_wp2_with (first
    | (go_at_call 34; refine HS.out.mono ?_; rintro e w1 ⟨rfl, m, rfl⟩; have hb1 := below_drewN HB.out m)
    | (go_at_call 37; refine (HC.out _ hb1).mono ?_; rintro e w2 ⟨rfl, hb2⟩; have hbw := hb1.trans (hb2.mono hb1.size); have hR2 := (HE.out.below (below_drewN (Below.refl _ _) m)).below hb2; have hfR := hR2.frozen; have hzR := hR2.lt; obtain ⟨r0, r1, r2, r3, r4, r5, r6, r7, r8, r9, r10, r11, r12, r13⟩ := hR2.at; simp only at r0 r1 r2 r3 r4 r5 r6 r7 r8 r9 r10 r11 r12 r13; clear hb2))
  have hFF : BlkE ((((((((((((((w2.setCell ⟨w.heap.size, 0, none⟩ (.string yk)).setCell ⟨w.heap.size, 1, none⟩ (.string ygc)).setCell ⟨w.heap.size, 2, none⟩ (.int .i64 ygp)).setCell ⟨w.heap.size, 3, none⟩ (.string yli)).setCell ⟨w.heap.size, 4, none⟩ (.string ylc)).setCell ⟨w.heap.size, 5, none⟩ (.int .i64 ylu)).setCell ⟨w.heap.size, 6, none⟩ (.int .i64 ylk)).setCell ⟨w.heap.size, 7, none⟩ (.string yfz)).setCell ⟨w.heap.size, 8, none⟩ (.int .i64 yfr)).setCell ⟨w.heap.size, 9, none⟩ (.int .i64 yfb)).setCell ⟨w.heap.size, 10, none⟩ (.string ytz)).setCell ⟨w.heap.size, 11, none⟩ (.int .i64 ytr)).setCell ⟨w.heap.size, 12, none⟩ (.int .i64 ytb)).setCell ⟨w.heap.size, 13, none⟩ (.int .i64 yn)) w.heap.size (yk, (ygc, ygp), (yli, ylc, ylu, ylk), (yfz, yfr, yfb), (ytz, ytr, ytb), yn) := BlkE.setE hR2 (yk, (ygc, ygp), (yli, ylc, ylu, ylk), (yfz, yfr, yfb), (ytz, ytr, ytb), yn)
  have hBF : Below w.heap.size w ((((((((((((((w2.setCell ⟨w.heap.size, 0, none⟩ (.string yk)).setCell ⟨w.heap.size, 1, none⟩ (.string ygc)).setCell ⟨w.heap.size, 2, none⟩ (.int .i64 ygp)).setCell ⟨w.heap.size, 3, none⟩ (.string yli)).setCell ⟨w.heap.size, 4, none⟩ (.string ylc)).setCell ⟨w.heap.size, 5, none⟩ (.int .i64 ylu)).setCell ⟨w.heap.size, 6, none⟩ (.int .i64 ylk)).setCell ⟨w.heap.size, 7, none⟩ (.string yfz)).setCell ⟨w.heap.size, 8, none⟩ (.int .i64 yfr)).setCell ⟨w.heap.size, 9, none⟩ (.int .i64 yfb)).setCell ⟨w.heap.size, 10, none⟩ (.string ytz)).setCell ⟨w.heap.size, 11, none⟩ (.int .i64 ytr)).setCell ⟨w.heap.size, 12, none⟩ (.int .i64 ytb)).setCell ⟨w.heap.size, 13, none⟩ (.int .i64 yn)) := below_setE hbw (Nat.le_refl _) (yk, (ygc, ygp), (yli, ylc, ylu, ylk), (yfz, yfr, yfb), (ytz, ytr, ytb), yn)
  generalize ((((((((((((((w2.setCell ⟨w.heap.size, 0, none⟩ (.string yk)).setCell ⟨w.heap.size, 1, none⟩ (.string ygc)).setCell ⟨w.heap.size, 2, none⟩ (.int .i64 ygp)).setCell ⟨w.heap.size, 3, none⟩ (.string yli)).setCell ⟨w.heap.size, 4, none⟩ (.string ylc)).setCell ⟨w.heap.size, 5, none⟩ (.int .i64 ylu)).setCell ⟨w.heap.size, 6, none⟩ (.int .i64 ylk)).setCell ⟨w.heap.size, 7, none⟩ (.string yfz)).setCell ⟨w.heap.size, 8, none⟩ (.int .i64 yfr)).setCell ⟨w.heap.size, 9, none⟩ (.int .i64 yfb)).setCell ⟨w.heap.size, 10, none⟩ (.string ytz)).setCell ⟨w.heap.size, 11, none⟩ (.int .i64 ytr)).setCell ⟨w.heap.size, 12, none⟩ (.int .i64 ytb)).setCell ⟨w.heap.size, 13, none⟩ (.int .i64 yn)) = WF at *
  obtain ⟨f0, f1, f2, f3, f4, f5, f6, f7, f8, f9, f10, f11, f12, f13⟩ := hFF.at
  simp only at f0 f1 f2 f3 f4 f5 f6 f7 f8 f9 f10 f11 f12 f13
  have hzF := hFF.lt
  exact bodyPost_ret (v := .tuple #[.agg #[.string yk, .string ygc, .int .i64 ygp, .string yli, .string ylc, .int .i64 ylu, .int .i64 ylk, .string yfz, .int .i64 yfr, .int .i64 yfb, .string ytz, .int .i64 ytr, .int .i64 ytb, .int .i64 yn], V]) (by simp [results, Tryz.results13, go_sem, f0, f1, f2, f3, f4, f5, f6, f7, f8, f9, f10, f11, f12, f13]) rfl ⟨rfl, hBF⟩
end Go.Proofs.YtgdhfipbbijngaaGreatDoor
namespace Go.Proofs.YtgdhfipbbijngaaGreatDoor
open Go.RowKit Go.Lib Go.Sort

/-- entry.parts. -/
theorem parts_any (x : ByteArray) (w : World) (s : Nat → Addr) (hz : x.size < 4294967281) (hs : Es w s) :
    Calls Tryz.prog 13 #[.string x] w fun e w' => e = .returned (.tuple #[agE (partE x.data.toList).1, errP s (partE x.data.toList).2]) ∧ Below w.heap.size w w' := by
  by_cases h1 : arr (cutA 32 x.data.toList) = kGoods
  · exact parts_goods x w s hz hs h1
  · by_cases h2 : arr (cutA 32 x.data.toList) = kLot
    · exact parts_lot x w s hz hs h2
    · exact parts_pieces x w s hz hs h1 h2
end Go.Proofs.YtgdhfipbbijngaaGreatDoor
namespace Go.Proofs.YtgdhfipbbijngaaGreatDoor
open Go.RowKit Go.Lib Go.Sort

theorem readP_size (l : List UInt8) : (readP l).1.1.size ≤ l.length := by
  have h : (plOf l).1.size ≤ l.length := by unfold plOf; rw [mk_size]; exact cutA_le 45 l
  unfold readP
  split
  · split
    · exact h
    · exact Nat.zero_le _
  · exact Nat.zero_le _
theorem readL_size (l : List UInt8) : (readL l).1.1.size ≤ l.length ∧ (readL l).1.2.1.size ≤ l.length := by
  have h : (lotOf l).1.size ≤ l.length ∧ (lotOf l).2.1.size ≤ l.length := by
    unfold lotOf
    simp only [mk_size]
    have a := cutA_le 32 l
    have b := cutB_le 32 l
    have c := cutA_le 32 (cutB 32 l)
    omega
  unfold readL
  split
  · split
    · exact h
    · exact ⟨Nat.zero_le _, Nat.zero_le _⟩
  · exact ⟨Nat.zero_le _, Nat.zero_le _⟩
theorem zeroE_sz : SzE zeroE := ⟨Nat.zero_le _, Nat.zero_le _, Nat.zero_le _, Nat.zero_le _, Nat.zero_le _, Nat.zero_le _⟩
theorem partC_sz (c : Kd) (k : ByteArray) (l : List UInt8) (hk : k.size ≤ maxLen) (hl : l.length ≤ maxLen) : SzE (partC c k l).1 := by
  have a := cutA_le 32 l
  have b := cutB_le 32 l
  have b2 := cutB_le 32 (cutB 32 l)
  have p1 := readP_size (cutA 32 (cutB 32 l))
  have p2 := readP_size (cutA 32 (tail2 l))
  have q1 := cutA_le 32 (cutB 32 l)
  have q2 : (cutA 32 (tail2 l)).length ≤ l.length := Nat.le_trans (cutA_le 32 _) (by unfold tail2; omega)
  have r := readL_size l
  have sA : (arr (cutA 32 l)).size ≤ maxLen := by rw [mk_size]; omega
  have z : (⟨#[]⟩ : ByteArray).size ≤ maxLen := Nat.zero_le _
  cases c
  · unfold partC; simp only; split
    · exact ⟨hk, sA, z, z, z, z⟩
    · exact zeroE_sz
  · exact ⟨hk, z, Nat.le_trans r.1 hl, Nat.le_trans r.2 hl, z, z⟩
  · unfold partC; simp only; split
    · split
      · exact ⟨hk, z, sA, z, z, by show (readP _).1.1.size ≤ _; omega⟩
      · exact zeroE_sz
    · exact zeroE_sz
  · unfold partC; simp only; split
    · split
      · exact ⟨hk, z, sA, z, by show (readP _).1.1.size ≤ _; omega, z⟩
      · exact zeroE_sz
    · exact zeroE_sz
  · unfold partC; simp only; split
    · split
      · split
        · exact ⟨hk, z, sA, z, by show (readP _).1.1.size ≤ _; omega, by show (readP _).1.1.size ≤ _; omega⟩
        · exact zeroE_sz
      · exact zeroE_sz
    · exact zeroE_sz
  · unfold partC; simp only; split
    · exact ⟨hk, z, sA, z, z, z⟩
    · exact zeroE_sz
  · exact zeroE_sz
theorem partE_sz (l : List UInt8) (hl : l.length ≤ maxLen) : SzE (partE l).1 := by
  have a := cutA_le 32 l
  have b := cutB_le 32 l
  exact partC_sz _ _ _ (by rw [mk_size]; omega) (by omega)
set_option maxRecDepth 100000 in
set_option maxHeartbeats 8000000 in
theorem eread_part (x : ByteArray) (w : World) (s : Nat → Addr) (hz : x.size < 4294967281) (hs : Es w s) (h : (partE x.data.toList).2 ≠ 0) :
    Calls Tryz.prog 6 #[.string x] w fun e w' => e = .returned (.tuple #[agE zeroE, errP s (partE x.data.toList).2]) ∧ Below w.heap.size w w' := by
  have hB : Below w.heap.size w (w.alloc (celE zeroE)) := (Below.refl _ w).alloc (Nat.le_refl _) _
  have hE := BlkE.new w zeroE
  have hP := parts_any x (w.alloc (celE zeroE)) s hz (hs.below hB)
  rw [errP_pos s h] at hP ⊢
  generalize s ((partE x.data.toList).2 - 1) = ad at *
  generalize (partE x.data.toList).1 = y at *
  clear hz hs h
  obtain ⟨yk, ⟨ygc, ygp⟩, ⟨yli, ylc, ylu, ylk⟩, ⟨yfz, yfr, yfb⟩, ⟨ytz, ytr, ytb⟩, yn⟩ := y
  unfold agE at *
  simp only at *
  have HP : Hid (Calls Tryz.prog 13 _ _ _) := hP
  have HB : Hid (Below _ _ _) := hB
  have HE : Hid (BlkE _ _ _) := hE
  clear hP hB hE
  unfold celE zeroE zeroG zeroL zeroP at HP HB HE
  unfold zeroE zeroG zeroL zeroP
  simp only at HP HB HE ⊢
  go_enter Tryz.func6, Tryz.ntmps6
  go_wp2_with (first | (go_at_call 13; refine HP.out.mono ?_; rintro e w1 ⟨rfl, hb1⟩; have hbw1 := HB.out.trans (hb1.mono HB.out.size); have hR1 := HE.out.below hb1; obtain ⟨W3, hW3⟩ : ∃ W3, W3 = w1.alloc (.cells #[.string yk, .string ygc, .int .i64 ygp, .string yli, .string ylc, .int .i64 ylu, .int .i64 ylk, .string yfz, .int .i64 yfr, .int .i64 yfb, .string ytz, .int .i64 ytr, .int .i64 ytb, .int .i64 yn] 29) := ⟨_, rfl⟩; have hal := hW3.symm; have hb3 : Below w1.heap.size w1 W3 := (by rw [hW3]; exact (Below.refl _ _).alloc (Nat.le_refl _) _); have hbw3 := hbw1.trans (hb3.mono hbw1.size); have hE3 : BlkE W3 w1.heap.size (yk, (ygc, ygp), (yli, ylc, ylu, ylk), (yfz, yfr, yfb), (ytz, ytr, ytb), yn) := (by rw [hW3]; exact BlkE.new w1 (yk, (ygc, ygp), (yli, ylc, ylu, ylk), (yfz, yfr, yfb), (ytz, ytr, ytb), yn)); have hR3 := hR1.below hb3; have hfR3 := hR3.frozen; obtain ⟨r0, r1, r2, r3, r4, r5, r6, r7, r8, r9, r10, r11, r12, r13⟩ := hR3.at; obtain ⟨a0, a1, a2, a3, a4, a5, a6, a7, a8, a9, a10, a11, a12, a13⟩ := hE3.at; simp only at r0 r1 r2 r3 r4 r5 r6 r7 r8 r9 r10 r11 r12 r13 a0 a1 a2 a3 a4 a5 a6 a7 a8 a9 a10 a11 a12 a13; clear hb1 hW3 hb3 hR1))
  have hFF : BlkE ((((((((((((((W3.setCell ⟨w.heap.size, 0, none⟩ (.string ⟨#[]⟩)).setCell ⟨w.heap.size, 1, none⟩ (.string ⟨#[]⟩)).setCell ⟨w.heap.size, 2, none⟩ (.int .i64 0)).setCell ⟨w.heap.size, 3, none⟩ (.string ⟨#[]⟩)).setCell ⟨w.heap.size, 4, none⟩ (.string ⟨#[]⟩)).setCell ⟨w.heap.size, 5, none⟩ (.int .i64 0)).setCell ⟨w.heap.size, 6, none⟩ (.int .i64 0)).setCell ⟨w.heap.size, 7, none⟩ (.string ⟨#[]⟩)).setCell ⟨w.heap.size, 8, none⟩ (.int .i64 0)).setCell ⟨w.heap.size, 9, none⟩ (.int .i64 0)).setCell ⟨w.heap.size, 10, none⟩ (.string ⟨#[]⟩)).setCell ⟨w.heap.size, 11, none⟩ (.int .i64 0)).setCell ⟨w.heap.size, 12, none⟩ (.int .i64 0)).setCell ⟨w.heap.size, 13, none⟩ (.int .i64 0)) w.heap.size (⟨#[]⟩, (⟨#[]⟩, 0), (⟨#[]⟩, ⟨#[]⟩, 0, 0), (⟨#[]⟩, 0, 0), (⟨#[]⟩, 0, 0), 0) := BlkE.setE hR3 (⟨#[]⟩, (⟨#[]⟩, 0), (⟨#[]⟩, ⟨#[]⟩, 0, 0), (⟨#[]⟩, 0, 0), (⟨#[]⟩, 0, 0), 0)
  have hBF : Below w.heap.size w ((((((((((((((W3.setCell ⟨w.heap.size, 0, none⟩ (.string ⟨#[]⟩)).setCell ⟨w.heap.size, 1, none⟩ (.string ⟨#[]⟩)).setCell ⟨w.heap.size, 2, none⟩ (.int .i64 0)).setCell ⟨w.heap.size, 3, none⟩ (.string ⟨#[]⟩)).setCell ⟨w.heap.size, 4, none⟩ (.string ⟨#[]⟩)).setCell ⟨w.heap.size, 5, none⟩ (.int .i64 0)).setCell ⟨w.heap.size, 6, none⟩ (.int .i64 0)).setCell ⟨w.heap.size, 7, none⟩ (.string ⟨#[]⟩)).setCell ⟨w.heap.size, 8, none⟩ (.int .i64 0)).setCell ⟨w.heap.size, 9, none⟩ (.int .i64 0)).setCell ⟨w.heap.size, 10, none⟩ (.string ⟨#[]⟩)).setCell ⟨w.heap.size, 11, none⟩ (.int .i64 0)).setCell ⟨w.heap.size, 12, none⟩ (.int .i64 0)).setCell ⟨w.heap.size, 13, none⟩ (.int .i64 0)) := below_setE hbw3 (Nat.le_refl _) (⟨#[]⟩, (⟨#[]⟩, 0), (⟨#[]⟩, ⟨#[]⟩, 0, 0), (⟨#[]⟩, 0, 0), (⟨#[]⟩, 0, 0), 0)
  generalize ((((((((((((((W3.setCell ⟨w.heap.size, 0, none⟩ (.string ⟨#[]⟩)).setCell ⟨w.heap.size, 1, none⟩ (.string ⟨#[]⟩)).setCell ⟨w.heap.size, 2, none⟩ (.int .i64 0)).setCell ⟨w.heap.size, 3, none⟩ (.string ⟨#[]⟩)).setCell ⟨w.heap.size, 4, none⟩ (.string ⟨#[]⟩)).setCell ⟨w.heap.size, 5, none⟩ (.int .i64 0)).setCell ⟨w.heap.size, 6, none⟩ (.int .i64 0)).setCell ⟨w.heap.size, 7, none⟩ (.string ⟨#[]⟩)).setCell ⟨w.heap.size, 8, none⟩ (.int .i64 0)).setCell ⟨w.heap.size, 9, none⟩ (.int .i64 0)).setCell ⟨w.heap.size, 10, none⟩ (.string ⟨#[]⟩)).setCell ⟨w.heap.size, 11, none⟩ (.int .i64 0)).setCell ⟨w.heap.size, 12, none⟩ (.int .i64 0)).setCell ⟨w.heap.size, 13, none⟩ (.int .i64 0)) = WF at *
  obtain ⟨f0, f1, f2, f3, f4, f5, f6, f7, f8, f9, f10, f11, f12, f13⟩ := hFF.at
  simp only at f0 f1 f2 f3 f4 f5 f6 f7 f8 f9 f10 f11 f12 f13
  have hzF := hFF.lt
  exact bodyPost_ret (v := .tuple #[.agg #[.string ⟨#[]⟩, .string ⟨#[]⟩, .int .i64 0, .string ⟨#[]⟩, .string ⟨#[]⟩, .int .i64 0, .int .i64 0, .string ⟨#[]⟩, .int .i64 0, .int .i64 0, .string ⟨#[]⟩, .int .i64 0, .int .i64 0, .int .i64 0], err ad]) (by simp [results, Tryz.results6, go_sem, f0, f1, f2, f3, f4, f5, f6, f7, f8, f9, f10, f11, f12, f13]) rfl ⟨rfl, hBF⟩
set_option maxRecDepth 100000 in
set_option maxHeartbeats 8000000 in
theorem eread_chk (x : ByteArray) (w : World) (s : Nat → Addr) (hz : x.size < 4294967281) (hs : Es w s) (h : (partE x.data.toList).2 = 0) (h1 : entErr (partE x.data.toList).1 ≠ 0) :
    Calls Tryz.prog 6 #[.string x] w fun e w' => e = .returned (.tuple #[agE zeroE, errP s (entErr (partE x.data.toList).1)]) ∧ Below w.heap.size w w' := by
  have hB : Below w.heap.size w (w.alloc (celE zeroE)) := (Below.refl _ w).alloc (Nat.le_refl _) _
  have hE := BlkE.new w zeroE
  have hP := parts_any x (w.alloc (celE zeroE)) s hz (hs.below hB)
  have hC := fun w1 (hb : Below w.heap.size w w1) => echeck_any (partE x.data.toList).1 w1 s (partE_sz _ (by rw [size_len]; unfold maxLen; omega)) (hs.below hb)
  rw [h, errP_zero] at hP
  rw [errP_pos s h1] at hC ⊢
  generalize s (entErr (partE x.data.toList).1 - 1) = ad at *
  generalize (partE x.data.toList).1 = y at *
  clear hz hs h h1
  have HC : Hid (∀ w1, _ → Calls Tryz.prog 9 _ _ _) := hC
  clear hC
  obtain ⟨yk, ⟨ygc, ygp⟩, ⟨yli, ylc, ylu, ylk⟩, ⟨yfz, yfr, yfb⟩, ⟨ytz, ytr, ytb⟩, yn⟩ := y
  unfold agE at *
  simp only at *
  have HP : Hid (Calls Tryz.prog 13 _ _ _) := hP
  have HB : Hid (Below _ _ _) := hB
  have HE : Hid (BlkE _ _ _) := hE
  clear hP hB hE
  unfold celE zeroE zeroG zeroL zeroP at HP HB HE
  unfold zeroE zeroG zeroL zeroP
  simp only at HP HB HE ⊢
  go_enter Tryz.func6, Tryz.ntmps6
  go_wp2_with (first | (go_at_call 13; refine HP.out.mono ?_; rintro e w1 ⟨rfl, hb1⟩; have hbw1 := HB.out.trans (hb1.mono HB.out.size); have hR1 := HE.out.below hb1; obtain ⟨W3, hW3⟩ : ∃ W3, W3 = w1.alloc (.cells #[.string yk, .string ygc, .int .i64 ygp, .string yli, .string ylc, .int .i64 ylu, .int .i64 ylk, .string yfz, .int .i64 yfr, .int .i64 yfb, .string ytz, .int .i64 ytr, .int .i64 ytb, .int .i64 yn] 29) := ⟨_, rfl⟩; have hal := hW3.symm; have hb3 : Below w1.heap.size w1 W3 := (by rw [hW3]; exact (Below.refl _ _).alloc (Nat.le_refl _) _); have hbw3 := hbw1.trans (hb3.mono hbw1.size); have hE3 : BlkE W3 w1.heap.size (yk, (ygc, ygp), (yli, ylc, ylu, ylk), (yfz, yfr, yfb), (ytz, ytr, ytb), yn) := (by rw [hW3]; exact BlkE.new w1 (yk, (ygc, ygp), (yli, ylc, ylu, ylk), (yfz, yfr, yfb), (ytz, ytr, ytb), yn)); have hR3 := hR1.below hb3; have hfR3 := hR3.frozen; obtain ⟨r0, r1, r2, r3, r4, r5, r6, r7, r8, r9, r10, r11, r12, r13⟩ := hR3.at; obtain ⟨a0, a1, a2, a3, a4, a5, a6, a7, a8, a9, a10, a11, a12, a13⟩ := hE3.at; simp only at r0 r1 r2 r3 r4 r5 r6 r7 r8 r9 r10 r11 r12 r13 a0 a1 a2 a3 a4 a5 a6 a7 a8 a9 a10 a11 a12 a13; clear hb1 hW3 hb3 hR1) | (go_at_call 9; refine (HC.out _ hbw3).mono ?_; rintro e w2 ⟨rfl, hb2⟩; have hbw2 := hbw3.trans (hb2.mono hbw3.size); have hR2 := hR3.below hb2; have hE2 := hE3.below hb2; have hfR2 := hR2.frozen; obtain ⟨d0, d1, d2, d3, d4, d5, d6, d7, d8, d9, d10, d11, d12, d13⟩ := hR2.at; obtain ⟨c0, c1, c2, c3, c4, c5, c6, c7, c8, c9, c10, c11, c12, c13⟩ := hE2.at; simp only at d0 d1 d2 d3 d4 d5 d6 d7 d8 d9 d10 d11 d12 d13 c0 c1 c2 c3 c4 c5 c6 c7 c8 c9 c10 c11 c12 c13; clear hb2))
  have hFF : BlkE ((((((((((((((w2.setCell ⟨w.heap.size, 0, none⟩ (.string ⟨#[]⟩)).setCell ⟨w.heap.size, 1, none⟩ (.string ⟨#[]⟩)).setCell ⟨w.heap.size, 2, none⟩ (.int .i64 0)).setCell ⟨w.heap.size, 3, none⟩ (.string ⟨#[]⟩)).setCell ⟨w.heap.size, 4, none⟩ (.string ⟨#[]⟩)).setCell ⟨w.heap.size, 5, none⟩ (.int .i64 0)).setCell ⟨w.heap.size, 6, none⟩ (.int .i64 0)).setCell ⟨w.heap.size, 7, none⟩ (.string ⟨#[]⟩)).setCell ⟨w.heap.size, 8, none⟩ (.int .i64 0)).setCell ⟨w.heap.size, 9, none⟩ (.int .i64 0)).setCell ⟨w.heap.size, 10, none⟩ (.string ⟨#[]⟩)).setCell ⟨w.heap.size, 11, none⟩ (.int .i64 0)).setCell ⟨w.heap.size, 12, none⟩ (.int .i64 0)).setCell ⟨w.heap.size, 13, none⟩ (.int .i64 0)) w.heap.size (⟨#[]⟩, (⟨#[]⟩, 0), (⟨#[]⟩, ⟨#[]⟩, 0, 0), (⟨#[]⟩, 0, 0), (⟨#[]⟩, 0, 0), 0) := BlkE.setE hR2 (⟨#[]⟩, (⟨#[]⟩, 0), (⟨#[]⟩, ⟨#[]⟩, 0, 0), (⟨#[]⟩, 0, 0), (⟨#[]⟩, 0, 0), 0)
  have hBF : Below w.heap.size w ((((((((((((((w2.setCell ⟨w.heap.size, 0, none⟩ (.string ⟨#[]⟩)).setCell ⟨w.heap.size, 1, none⟩ (.string ⟨#[]⟩)).setCell ⟨w.heap.size, 2, none⟩ (.int .i64 0)).setCell ⟨w.heap.size, 3, none⟩ (.string ⟨#[]⟩)).setCell ⟨w.heap.size, 4, none⟩ (.string ⟨#[]⟩)).setCell ⟨w.heap.size, 5, none⟩ (.int .i64 0)).setCell ⟨w.heap.size, 6, none⟩ (.int .i64 0)).setCell ⟨w.heap.size, 7, none⟩ (.string ⟨#[]⟩)).setCell ⟨w.heap.size, 8, none⟩ (.int .i64 0)).setCell ⟨w.heap.size, 9, none⟩ (.int .i64 0)).setCell ⟨w.heap.size, 10, none⟩ (.string ⟨#[]⟩)).setCell ⟨w.heap.size, 11, none⟩ (.int .i64 0)).setCell ⟨w.heap.size, 12, none⟩ (.int .i64 0)).setCell ⟨w.heap.size, 13, none⟩ (.int .i64 0)) := below_setE hbw2 (Nat.le_refl _) (⟨#[]⟩, (⟨#[]⟩, 0), (⟨#[]⟩, ⟨#[]⟩, 0, 0), (⟨#[]⟩, 0, 0), (⟨#[]⟩, 0, 0), 0)
  generalize ((((((((((((((w2.setCell ⟨w.heap.size, 0, none⟩ (.string ⟨#[]⟩)).setCell ⟨w.heap.size, 1, none⟩ (.string ⟨#[]⟩)).setCell ⟨w.heap.size, 2, none⟩ (.int .i64 0)).setCell ⟨w.heap.size, 3, none⟩ (.string ⟨#[]⟩)).setCell ⟨w.heap.size, 4, none⟩ (.string ⟨#[]⟩)).setCell ⟨w.heap.size, 5, none⟩ (.int .i64 0)).setCell ⟨w.heap.size, 6, none⟩ (.int .i64 0)).setCell ⟨w.heap.size, 7, none⟩ (.string ⟨#[]⟩)).setCell ⟨w.heap.size, 8, none⟩ (.int .i64 0)).setCell ⟨w.heap.size, 9, none⟩ (.int .i64 0)).setCell ⟨w.heap.size, 10, none⟩ (.string ⟨#[]⟩)).setCell ⟨w.heap.size, 11, none⟩ (.int .i64 0)).setCell ⟨w.heap.size, 12, none⟩ (.int .i64 0)).setCell ⟨w.heap.size, 13, none⟩ (.int .i64 0)) = WF at *
  obtain ⟨f0, f1, f2, f3, f4, f5, f6, f7, f8, f9, f10, f11, f12, f13⟩ := hFF.at
  simp only at f0 f1 f2 f3 f4 f5 f6 f7 f8 f9 f10 f11 f12 f13
  have hzF := hFF.lt
  exact bodyPost_ret (v := .tuple #[.agg #[.string ⟨#[]⟩, .string ⟨#[]⟩, .int .i64 0, .string ⟨#[]⟩, .string ⟨#[]⟩, .int .i64 0, .int .i64 0, .string ⟨#[]⟩, .int .i64 0, .int .i64 0, .string ⟨#[]⟩, .int .i64 0, .int .i64 0, .int .i64 0], err ad]) (by simp [results, Tryz.results6, go_sem, f0, f1, f2, f3, f4, f5, f6, f7, f8, f9, f10, f11, f12, f13]) rfl ⟨rfl, hBF⟩
set_option maxRecDepth 100000 in
set_option maxHeartbeats 8000000 in
theorem eread_ok (x : ByteArray) (w : World) (s : Nat → Addr) (hz : x.size < 4294967281) (hs : Es w s) (h : (partE x.data.toList).2 = 0) (h1 : entErr (partE x.data.toList).1 = 0) :
    Calls Tryz.prog 6 #[.string x] w fun e w' => e = .returned (.tuple #[agE (partE x.data.toList).1, .nilIface]) ∧ Below w.heap.size w w' := by
  have hB : Below w.heap.size w (w.alloc (celE zeroE)) := (Below.refl _ w).alloc (Nat.le_refl _) _
  have hE := BlkE.new w zeroE
  have hP := parts_any x (w.alloc (celE zeroE)) s hz (hs.below hB)
  have hC := fun w1 (hb : Below w.heap.size w w1) => echeck_any (partE x.data.toList).1 w1 s (partE_sz _ (by rw [size_len]; unfold maxLen; omega)) (hs.below hb)
  rw [h, errP_zero] at hP
  rw [h1, errP_zero] at hC
  generalize (partE x.data.toList).1 = y at *
  clear hz hs h h1
  have HC : Hid (∀ w1, _ → Calls Tryz.prog 9 _ _ _) := hC
  clear hC
  obtain ⟨yk, ⟨ygc, ygp⟩, ⟨yli, ylc, ylu, ylk⟩, ⟨yfz, yfr, yfb⟩, ⟨ytz, ytr, ytb⟩, yn⟩ := y
  unfold agE at *
  simp only at *
  have HP : Hid (Calls Tryz.prog 13 _ _ _) := hP
  have HB : Hid (Below _ _ _) := hB
  have HE : Hid (BlkE _ _ _) := hE
  clear hP hB hE
  unfold celE zeroE zeroG zeroL zeroP at HP HB HE
  simp only at HP HB HE
  go_enter Tryz.func6, Tryz.ntmps6
  go_wp2_with (first | (go_at_call 13; refine HP.out.mono ?_; rintro e w1 ⟨rfl, hb1⟩; have hbw1 := HB.out.trans (hb1.mono HB.out.size); have hR1 := HE.out.below hb1; obtain ⟨W3, hW3⟩ : ∃ W3, W3 = w1.alloc (.cells #[.string yk, .string ygc, .int .i64 ygp, .string yli, .string ylc, .int .i64 ylu, .int .i64 ylk, .string yfz, .int .i64 yfr, .int .i64 yfb, .string ytz, .int .i64 ytr, .int .i64 ytb, .int .i64 yn] 29) := ⟨_, rfl⟩; have hal := hW3.symm; have hb3 : Below w1.heap.size w1 W3 := (by rw [hW3]; exact (Below.refl _ _).alloc (Nat.le_refl _) _); have hbw3 := hbw1.trans (hb3.mono hbw1.size); have hE3 : BlkE W3 w1.heap.size (yk, (ygc, ygp), (yli, ylc, ylu, ylk), (yfz, yfr, yfb), (ytz, ytr, ytb), yn) := (by rw [hW3]; exact BlkE.new w1 (yk, (ygc, ygp), (yli, ylc, ylu, ylk), (yfz, yfr, yfb), (ytz, ytr, ytb), yn)); have hR3 := hR1.below hb3; have hfR3 := hR3.frozen; obtain ⟨r0, r1, r2, r3, r4, r5, r6, r7, r8, r9, r10, r11, r12, r13⟩ := hR3.at; obtain ⟨a0, a1, a2, a3, a4, a5, a6, a7, a8, a9, a10, a11, a12, a13⟩ := hE3.at; simp only at r0 r1 r2 r3 r4 r5 r6 r7 r8 r9 r10 r11 r12 r13 a0 a1 a2 a3 a4 a5 a6 a7 a8 a9 a10 a11 a12 a13; clear hb1 hW3 hb3 hR1) | (go_at_call 9; refine (HC.out _ hbw3).mono ?_; rintro e w2 ⟨rfl, hb2⟩; have hbw2 := hbw3.trans (hb2.mono hbw3.size); have hR2 := hR3.below hb2; have hE2 := hE3.below hb2; have hfR2 := hR2.frozen; obtain ⟨d0, d1, d2, d3, d4, d5, d6, d7, d8, d9, d10, d11, d12, d13⟩ := hR2.at; obtain ⟨c0, c1, c2, c3, c4, c5, c6, c7, c8, c9, c10, c11, c12, c13⟩ := hE2.at; simp only at d0 d1 d2 d3 d4 d5 d6 d7 d8 d9 d10 d11 d12 d13 c0 c1 c2 c3 c4 c5 c6 c7 c8 c9 c10 c11 c12 c13; clear hb2))
  have hFF : BlkE ((((((((((((((w2.setCell ⟨w.heap.size, 0, none⟩ (.string yk)).setCell ⟨w.heap.size, 1, none⟩ (.string ygc)).setCell ⟨w.heap.size, 2, none⟩ (.int .i64 ygp)).setCell ⟨w.heap.size, 3, none⟩ (.string yli)).setCell ⟨w.heap.size, 4, none⟩ (.string ylc)).setCell ⟨w.heap.size, 5, none⟩ (.int .i64 ylu)).setCell ⟨w.heap.size, 6, none⟩ (.int .i64 ylk)).setCell ⟨w.heap.size, 7, none⟩ (.string yfz)).setCell ⟨w.heap.size, 8, none⟩ (.int .i64 yfr)).setCell ⟨w.heap.size, 9, none⟩ (.int .i64 yfb)).setCell ⟨w.heap.size, 10, none⟩ (.string ytz)).setCell ⟨w.heap.size, 11, none⟩ (.int .i64 ytr)).setCell ⟨w.heap.size, 12, none⟩ (.int .i64 ytb)).setCell ⟨w.heap.size, 13, none⟩ (.int .i64 yn)) w.heap.size (yk, (ygc, ygp), (yli, ylc, ylu, ylk), (yfz, yfr, yfb), (ytz, ytr, ytb), yn) := BlkE.setE hR2 (yk, (ygc, ygp), (yli, ylc, ylu, ylk), (yfz, yfr, yfb), (ytz, ytr, ytb), yn)
  have hBF : Below w.heap.size w ((((((((((((((w2.setCell ⟨w.heap.size, 0, none⟩ (.string yk)).setCell ⟨w.heap.size, 1, none⟩ (.string ygc)).setCell ⟨w.heap.size, 2, none⟩ (.int .i64 ygp)).setCell ⟨w.heap.size, 3, none⟩ (.string yli)).setCell ⟨w.heap.size, 4, none⟩ (.string ylc)).setCell ⟨w.heap.size, 5, none⟩ (.int .i64 ylu)).setCell ⟨w.heap.size, 6, none⟩ (.int .i64 ylk)).setCell ⟨w.heap.size, 7, none⟩ (.string yfz)).setCell ⟨w.heap.size, 8, none⟩ (.int .i64 yfr)).setCell ⟨w.heap.size, 9, none⟩ (.int .i64 yfb)).setCell ⟨w.heap.size, 10, none⟩ (.string ytz)).setCell ⟨w.heap.size, 11, none⟩ (.int .i64 ytr)).setCell ⟨w.heap.size, 12, none⟩ (.int .i64 ytb)).setCell ⟨w.heap.size, 13, none⟩ (.int .i64 yn)) := below_setE hbw2 (Nat.le_refl _) (yk, (ygc, ygp), (yli, ylc, ylu, ylk), (yfz, yfr, yfb), (ytz, ytr, ytb), yn)
  generalize ((((((((((((((w2.setCell ⟨w.heap.size, 0, none⟩ (.string yk)).setCell ⟨w.heap.size, 1, none⟩ (.string ygc)).setCell ⟨w.heap.size, 2, none⟩ (.int .i64 ygp)).setCell ⟨w.heap.size, 3, none⟩ (.string yli)).setCell ⟨w.heap.size, 4, none⟩ (.string ylc)).setCell ⟨w.heap.size, 5, none⟩ (.int .i64 ylu)).setCell ⟨w.heap.size, 6, none⟩ (.int .i64 ylk)).setCell ⟨w.heap.size, 7, none⟩ (.string yfz)).setCell ⟨w.heap.size, 8, none⟩ (.int .i64 yfr)).setCell ⟨w.heap.size, 9, none⟩ (.int .i64 yfb)).setCell ⟨w.heap.size, 10, none⟩ (.string ytz)).setCell ⟨w.heap.size, 11, none⟩ (.int .i64 ytr)).setCell ⟨w.heap.size, 12, none⟩ (.int .i64 ytb)).setCell ⟨w.heap.size, 13, none⟩ (.int .i64 yn)) = WF at *
  obtain ⟨f0, f1, f2, f3, f4, f5, f6, f7, f8, f9, f10, f11, f12, f13⟩ := hFF.at
  simp only at f0 f1 f2 f3 f4 f5 f6 f7 f8 f9 f10 f11 f12 f13
  have hzF := hFF.lt
  exact bodyPost_ret (v := .tuple #[.agg #[.string yk, .string ygc, .int .i64 ygp, .string yli, .string ylc, .int .i64 ylu, .int .i64 ylk, .string yfz, .int .i64 yfr, .int .i64 yfb, .string ytz, .int .i64 ytr, .int .i64 ytb, .int .i64 yn], .nilIface]) (by simp [results, Tryz.results6, go_sem, f0, f1, f2, f3, f4, f5, f6, f7, f8, f9, f10, f11, f12, f13]) rfl ⟨rfl, hBF⟩
/-- entry.Read. -/
theorem eread_any (x : ByteArray) (w : World) (s : Nat → Addr) (hz : x.size < 4294967281) (hs : Es w s) :
    Calls Tryz.prog 6 #[.string x] w fun e w' => e = .returned (.tuple #[agE (readE x.data.toList).1, errP s (readE x.data.toList).2]) ∧ Below w.heap.size w w' := by
  by_cases h : (partE x.data.toList).2 = 0
  · by_cases h1 : entErr (partE x.data.toList).1 = 0
    · have e : readE x.data.toList = ((partE x.data.toList).1, 0) := by unfold readE; rw [if_pos h, if_pos h1]
      rw [e]
      exact eread_ok x w s hz hs h h1
    · have e : readE x.data.toList = (zeroE, entErr (partE x.data.toList).1) := by unfold readE; rw [if_pos h, if_neg h1]
      rw [e]
      exact eread_chk x w s hz hs h h1
  · have e : readE x.data.toList = (zeroE, (partE x.data.toList).2) := by unfold readE; rw [if_neg h]
    rw [e]
    exact eread_part x w s hz hs h
end Go.Proofs.YtgdhfipbbijngaaGreatDoor
