/-
  What the reference's ReadEntry answers of a text, over whatever world; condition: the text has at most 100,000 bytes.
-/
import Derived.Test.YtgdhfipbbijngaaGreatDoorTReA
import Derived.Test.YtgdhfipbbijngaaGreatDoorTReB
import Derived.Test.YtgdhfipbbijngaaGreatDoorTReC
import Derived.Test.YtgdhfipbbijngaaGreatDoorTReD
import Derived.Test.YtgdhfipbbijngaaGreatDoorTReE
import Derived.Test.YtgdhfipbbijngaaGreatDoorTReF
import Derived.Test.YtgdhfipbbijngaaGreatDoorTReG
import Derived.Test.YtgdhfipbbijngaaGreatDoorTErr
import Derived.Test.YtgdhfipbbijngaaGreatDoorLRef1
import Derived.Test.YtgdhfipbbijngaaGreatDoorPRefRead
import Derived.Test.YtgdhfipbbijngaaGreatDoorEzRead
namespace Go.Proofs.YtgdhfipbbijngaaGreatDoor
open Go.RowKit Go.Lib Go.Sort

theorem readE_part {l : List UInt8} {c : Nat} (h : (partE l).2 = c) (hc : c ≠ 0) : readE l = (zeroE, c) := by unfold readE; rw [if_neg (by rw [h]; exact hc), h]
theorem readE_ok {l : List UInt8} {e : En} (h : partE l = (e, 0)) (h0 : entErr e = 0) : readE l = (e, 0) := by unfold readE; rw [h, if_pos rfl, if_pos h0]
theorem readE_err {l : List UInt8} {e : En} (h : partE l = (e, 0)) (h0 : entErr e ≠ 0) : readE l = (zeroE, entErr e) := by unfold readE; rw [h, if_pos rfl, if_neg h0]
theorem words_short (l : List UInt8) : (cutA 32 l).length ≤ l.length ∧ (cutB 32 l).length ≤ l.length ∧ (cutA 32 (cutB 32 l)).length ≤ l.length ∧ (tail1 (cutB 32 l)).length ≤ l.length ∧ (cutA 32 (cutB 32 (cutB 32 l))).length ≤ l.length ∧ (tail2 (cutB 32 l)).length ≤ l.length ∧ (cutA 32 (tail2 (cutB 32 l))).length ≤ l.length ∧ (tail3 (cutB 32 l)).length ≤ l.length := by
  have a0 := cutA_le 32 l
  have b0 := cutB_le 32 l
  have a1 := cutA_le 32 (cutB 32 l)
  have b1 := cutB_le 32 (cutB 32 l)
  have a2 := cutA_le 32 (cutB 32 (cutB 32 l))
  have b2 := cutB_le 32 (cutB 32 (cutB 32 l))
  have a3 := cutA_le 32 (cutB 32 (cutB 32 (cutB 32 l)))
  have b3 := cutB_le 32 (cutB 32 (cutB 32 (cutB 32 l)))
  unfold tail1 tail2 tail3
  refine ⟨?_, ?_, ?_, ?_, ?_, ?_, ?_, ?_⟩ <;> omega
theorem arr_small {x : ByteArray} {y : List UInt8} (hz : x.size ≤ 100000) (h : y.length ≤ x.data.toList.length) : (arr y).size ≤ 100000 := by
  rw [size_len] at h
  rw [mk_size]; omega
theorem max_small {n : Nat} (h : n ≤ 100000) : n ≤ maxLen := Nat.le_trans h (by decide)
theorem tread_other (x : ByteArray) (w : World) (hz : x.size ≤ 100000) (hk : NoKind (arr (cutA 32 x.data.toList))) :
    Calls Tryz.prog 7 #[.string x] w fun e w' => e = .returned (.tuple #[agE (readE x.data.toList).1, .int .i64 (readE x.data.toList).2]) ∧ Below w.heap.size w w' := by
  have hd := hk.kd
  have hkd : isKd (arr (cutA 32 x.data.toList)) = false := by unfold isKd; rw [hd]
  have e : readE x.data.toList = (zeroE, 4) := readE_part (c := 4) (by unfold partE; rw [hd]; rfl) (by decide)
  have hcut := refCutW x w hz
  rw [e]
  obtain ⟨t, ht⟩ := wlen_head x.data.toList
  rw [ht] at hcut
  exact re_other x _ (t.map arr) _ w hcut (by simp) hkd
theorem tread_goods (x : ByteArray) (w : World) (hz : x.size ≤ 100000) (hk : arr (cutA 32 x.data.toList) = kGoods) :
    Calls Tryz.prog 7 #[.string x] w fun e w' => e = .returned (.tuple #[agE (readE x.data.toList).1, .int .i64 (readE x.data.toList).2]) ∧ Below w.heap.size w w' := by
  have hd : kd (arr (cutA 32 x.data.toList)) = .goods := by rw [hk]; rfl
  have hkd : isKd (arr (cutA 32 x.data.toList)) = true := by unfold isKd; rw [hd]
  have hp : partE x.data.toList = partC .goods (arr (cutA 32 x.data.toList)) (cutB 32 x.data.toList) := by unfold partE; rw [hd]
  have hcut := refCutW x w hz
  obtain ⟨y0, y1, y2, y3, y4, y5, y6, y7⟩ := words_short x.data.toList
  have hsz := partE_sz x.data.toList (max_small (by rw [size_len]; exact hz))
  by_cases h3 : (splitL 32 x.data.toList).length = 3
  · obtain ⟨hs, hn⟩ := words3 h3
    rw [hs] at hcut
    simp only [List.map_cons, List.map_nil, List.length_cons, List.length_nil, Nat.zero_add, Nat.reduceAdd] at hcut
    have hN := fun W => numberOf (arr (tail1 (cutB 32 x.data.toList))) 13 W (by decide) (max_small (arr_small hz y3))
    rw [bytes_toList] at hN
    cases hm : num1 (cutB 32 x.data.toList) with
    | false =>
      have e : readE x.data.toList = (zeroE, 1) := readE_part (c := 1) (by rw [hp]; unfold partC; simp only; rw [hm]; rfl) (by decide)
      rw [e]
      rw [hn] at hm
      rw [numM_no hm] at hN
      exact re_goods_num x _ _ _ _ w hcut hkd hk hN (by decide)
    | true =>
      have hm' := hm
      rw [hn] at hm'
      have hv : 0 ≤ numM 13 (tail1 (cutB 32 x.data.toList)) := by rw [numM_yes hm']; omega
      have eP : partE x.data.toList = ((arr (cutA 32 x.data.toList), (arr (cutA 32 (cutB 32 x.data.toList)), numM 13 (tail1 (cutB 32 x.data.toList))), zeroL, zeroP, zeroP, 0), 0) := by rw [hp]; unfold partC; simp only; rw [if_pos hm, numM_yes hm']
      have hC := fun W => terr_any (partE x.data.toList).1 W hsz
      rw [eP] at hC
      by_cases h0 : entErr (partE x.data.toList).1 = 0
      · rw [eP] at h0
        rw [readE_ok eP h0]
        rw [h0] at hC
        exact re_goods_ok x _ _ _ _ w hcut hkd hk hN hv hC
      · rw [eP] at h0
        rw [readE_err eP h0]
        exact re_goods_err x _ _ _ _ _ w hcut hkd hk hN hv hC (by simp only at h0 ⊢; omega)
  · have e : readE x.data.toList = (zeroE, 1) := readE_part (c := 1) (by rw [hp]; unfold partC; simp only; rw [few3 h3]; rfl) (by decide)
    rw [e]
    obtain ⟨t, ht⟩ := wlen_head x.data.toList
    rw [ht] at hcut
    exact re_goods_few x _ (t.map arr) _ w hcut (by simp) (by rw [← ht]; exact h3) hkd hk
theorem tread_lot (x : ByteArray) (w : World) (hz : x.size ≤ 100000) (hk : arr (cutA 32 x.data.toList) = kLot) :
    Calls Tryz.prog 7 #[.string x] w fun e w' => e = .returned (.tuple #[agE (readE x.data.toList).1, .int .i64 (readE x.data.toList).2]) ∧ Below w.heap.size w w' := by
  have hd : kd (arr (cutA 32 x.data.toList)) = .lot := by rw [hk]; rfl
  have hkd : isKd (arr (cutA 32 x.data.toList)) = true := by unfold isKd; rw [hd]
  have hcut := refCutW x w hz
  obtain ⟨y0, y1, y2, y3, y4, y5, y6, y7⟩ := words_short x.data.toList
  have hsz := partE_sz x.data.toList (max_small (by rw [size_len]; exact hz))
  have hp : partE x.data.toList = ((arr (cutA 32 x.data.toList), zeroG, (readL (cutB 32 x.data.toList)).1, zeroP, zeroP, 0), (readL (cutB 32 x.data.toList)).2) := by unfold partE; rw [hd]; rfl
  have hR : ∃ (t : List ByteArray) (m : Nat), (splitL 32 x.data.toList).map arr = arr (cutA 32 x.data.toList) :: t ∧ (splitL 32 x.data.toList).length = m + 1 ∧ ∀ (g cap : Nat) (P : Option Addr) (W : World), (0 < m → P = some ⟨g, 1, none⟩) → (∀ (i : Nat) (y : ByteArray), (arr (cutA 32 x.data.toList) :: t)[i]? = some y → W.cell? ⟨g, i, none⟩ = some (.string y)) →
      Calls Tryz.prog 17 #[.slice P m cap] W fun e w' => e = .returned (.tuple #[agL (readL (cutB 32 x.data.toList)).1, .int .i64 (readL (cutB 32 x.data.toList)).2]) ∧ Below W.heap.size W w' := by
    cases hb : has 32 x.data.toList with
    | true =>
      refine ⟨(splitL 32 (cutB 32 x.data.toList)).map arr, (splitL 32 (cutB 32 x.data.toList)).length, by rw [wlen_some hb]; rfl, wlen_cut hb, fun g cap P W hP hw => ?_⟩
      have hpos : 0 < (splitL 32 (cutB 32 x.data.toList)).length := List.length_pos_iff.2 (split_pos 32 _)
      rw [hP hpos]
      refine readLotT_any (cutB 32 x.data.toList) g cap W (by rw [size_len] at y1; omega) fun p0 p1 p2 p3 hs => ?_
      rw [hs] at hw
      exact ⟨hw 1 _ rfl, hw 2 _ rfl, hw 3 _ rfl, hw 4 _ rfl⟩
    | false =>
      refine ⟨[], 0, by rw [split_none hb]; show [arr x.data.toList] = _; unfold cutA; rw [hb]; rfl, by rw [split_none hb]; rfl, fun g cap P W hP hw => ?_⟩
      have e : readL (cutB 32 x.data.toList) = (zeroL, 1) := by rw [cutB_no hb]; rfl
      rw [e]
      exact readLotT_few P 0 cap W (by decide)
  obtain ⟨t, m, ht, hm, hR⟩ := hR
  rw [ht, hm] at hcut
  by_cases h2 : (readL (cutB 32 x.data.toList)).2 = 0
  · have eP : partE x.data.toList = ((arr (cutA 32 x.data.toList), zeroG, (readL (cutB 32 x.data.toList)).1, zeroP, zeroP, 0), 0) := by rw [hp, h2]
    rw [h2] at hR
    have hC := fun W => terr_any (partE x.data.toList).1 W hsz
    rw [eP] at hC
    by_cases h0 : entErr (partE x.data.toList).1 = 0
    · rw [eP] at h0
      rw [readE_ok eP h0]
      rw [h0] at hC
      exact re_lot_ok x _ _ _ _ _ _ _ w hcut hkd hk hR hC
    · rw [eP] at h0
      rw [readE_err eP h0]
      exact re_lot_err x _ _ _ _ _ _ _ _ w hcut hkd hk hR hC (by simp only at h0 ⊢; omega)
  · rw [readE_part (c := (readL (cutB 32 x.data.toList)).2) (by rw [hp]) h2]
    exact re_lot_le x _ _ _ _ _ _ _ _ w hcut hkd hk hR (by omega)
theorem tread_hold (x : ByteArray) (w : World) (hz : x.size ≤ 100000) (hk : (arr (cutA 32 x.data.toList) = kHold ∨ arr (cutA 32 x.data.toList) = kFree)) :
    Calls Tryz.prog 7 #[.string x] w fun e w' => e = .returned (.tuple #[agE (readE x.data.toList).1, .int .i64 (readE x.data.toList).2]) ∧ Below w.heap.size w w' := by
  have hd : kd (arr (cutA 32 x.data.toList)) = .hold := by rcases hk with hk | hk <;> rw [hk] <;> rfl
  have hkd : isKd (arr (cutA 32 x.data.toList)) = true := by unfold isKd; rw [hd]
  have hg : arr (cutA 32 x.data.toList) ≠ kGoods := by rcases hk with hk | hk <;> rw [hk] <;> decide
  have hl : arr (cutA 32 x.data.toList) ≠ kLot := by rcases hk with hk | hk <;> rw [hk] <;> decide
  have hF : kFrom (kd (arr (cutA 32 x.data.toList))) = false := by rw [hd]; rfl
  have hT : kTo (kd (arr (cutA 32 x.data.toList))) = false := by rw [hd]; rfl
  have hp : partE x.data.toList = partC .hold (arr (cutA 32 x.data.toList)) (cutB 32 x.data.toList) := by unfold partE; rw [hd]
  have hcut := refCutW x w hz
  obtain ⟨y0, y1, y2, y3, y4, y5, y6, y7⟩ := words_short x.data.toList
  have hsz := partE_sz x.data.toList (max_small (by rw [size_len]; exact hz))
  by_cases h3 : (splitL 32 x.data.toList).length = 3
  · obtain ⟨hs, hn⟩ := words3 h3
    rw [hs] at hcut
    simp only [List.map_cons, List.map_nil, List.length_cons, List.length_nil, Nat.zero_add, Nat.reduceAdd] at hcut
    have hN := fun W => numberOf (arr (tail1 (cutB 32 x.data.toList))) 13 W (by decide) (max_small (arr_small hz y3))
    rw [bytes_toList] at hN
    cases hm : num1 (cutB 32 x.data.toList) with
    | false =>
      have e : readE x.data.toList = (zeroE, 1) := readE_part (c := 1) (by rw [hp]; unfold partC; simp only; rw [hm]; rfl) (by decide)
      rw [e]
      rw [hn] at hm
      rw [numM_no hm] at hN
      exact re_hold_num x _ _ _ _ w hcut hkd hg hl hF hT hN (by decide)
    | true =>
      have hm' := hm
      rw [hn] at hm'
      have hv : 0 ≤ numM 13 (tail1 (cutB 32 x.data.toList)) := by rw [numM_yes hm']; omega
      have eP : partE x.data.toList = ((arr (cutA 32 x.data.toList), zeroG, (arr (cutA 32 (cutB 32 x.data.toList)), ⟨#[]⟩, 0, 0), zeroP, zeroP, numM 13 (tail1 (cutB 32 x.data.toList))), 0) := by rw [hp]; unfold partC; simp only; rw [if_pos hm, numM_yes hm']
      have hC := fun W => terr_any (partE x.data.toList).1 W hsz
      rw [eP] at hC
      by_cases h0 : entErr (partE x.data.toList).1 = 0
      · rw [eP] at h0
        rw [readE_ok eP h0]
        rw [h0] at hC
        exact re_hold_ok x _ _ _ _ w hcut hkd hg hl hF hT hN hv hC
      · rw [eP] at h0
        rw [readE_err eP h0]
        exact re_hold_err x _ _ _ _ _ w hcut hkd hg hl hF hT hN hv hC (by simp only at h0 ⊢; omega)
  · have e : readE x.data.toList = (zeroE, 1) := readE_part (c := 1) (by rw [hp]; unfold partC; simp only; rw [few3 h3]; rfl) (by decide)
    rw [e]
    obtain ⟨t, ht⟩ := wlen_head x.data.toList
    rw [ht] at hcut
    exact re_hold_few x _ (t.map arr) _ w hcut (by simp) (by rw [← ht]; exact h3) hkd hg hl hF hT
theorem tread_to (x : ByteArray) (w : World) (hz : x.size ≤ 100000) (hk : (arr (cutA 32 x.data.toList) = kIn ∨ arr (cutA 32 x.data.toList) = kMore)) :
    Calls Tryz.prog 7 #[.string x] w fun e w' => e = .returned (.tuple #[agE (readE x.data.toList).1, .int .i64 (readE x.data.toList).2]) ∧ Below w.heap.size w w' := by
  have hd : kd (arr (cutA 32 x.data.toList)) = .tow := by rcases hk with hk | hk <;> rw [hk] <;> rfl
  have hkd : isKd (arr (cutA 32 x.data.toList)) = true := by unfold isKd; rw [hd]
  have hg : arr (cutA 32 x.data.toList) ≠ kGoods := by rcases hk with hk | hk <;> rw [hk] <;> decide
  have hl : arr (cutA 32 x.data.toList) ≠ kLot := by rcases hk with hk | hk <;> rw [hk] <;> decide
  have hF : kFrom (kd (arr (cutA 32 x.data.toList))) = false := by rw [hd]; rfl
  have hT : kTo (kd (arr (cutA 32 x.data.toList))) = true := by rw [hd]; rfl
  have hp : partE x.data.toList = partC .tow (arr (cutA 32 x.data.toList)) (cutB 32 x.data.toList) := by unfold partE; rw [hd]
  have hcut := refCutW x w hz
  obtain ⟨y0, y1, y2, y3, y4, y5, y6, y7⟩ := words_short x.data.toList
  have hsz := partE_sz x.data.toList (max_small (by rw [size_len]; exact hz))
  by_cases h3 : (splitL 32 x.data.toList).length = 4
  · obtain ⟨hs, hn⟩ := words4 h3
    rw [hs] at hcut
    simp only [List.map_cons, List.map_nil, List.length_cons, List.length_nil, Nat.zero_add, Nat.reduceAdd] at hcut
    have hN := fun W => numberOf (arr (tail2 (cutB 32 x.data.toList))) 13 W (by decide) (max_small (arr_small hz y5))
    rw [bytes_toList] at hN
    cases hm : num2 (cutB 32 x.data.toList) with
    | false =>
      have e : readE x.data.toList = (zeroE, 1) := readE_part (c := 1) (by rw [hp]; unfold partC; simp only; rw [hm]; rfl) (by decide)
      rw [e]
      rw [hn] at hm
      rw [numM_no hm] at hN
      exact re_to_num x _ _ _ _ _ w hcut hkd hg hl hF hT hN (by decide)
    | true =>
      have hm' := hm
      rw [hn] at hm'
      have hv : 0 ≤ numM 13 (tail2 (cutB 32 x.data.toList)) := by rw [numM_yes hm']; omega
      have hP := fun W => readPlace_any (arr (cutA 32 (cutB 32 (cutB 32 x.data.toList)))) W (arr_small hz y4)
      rw [bytes_toList] at hP
      by_cases h5 : (readP (cutA 32 (cutB 32 (cutB 32 x.data.toList)))).2 = 0
      · have eP : partE x.data.toList = ((arr (cutA 32 x.data.toList), zeroG, (arr (cutA 32 (cutB 32 x.data.toList)), ⟨#[]⟩, 0, 0), zeroP, (readP (cutA 32 (cutB 32 (cutB 32 x.data.toList)))).1, numM 13 (tail2 (cutB 32 x.data.toList))), 0) := by rw [hp]; unfold partC; simp only; rw [if_pos hm, if_pos h5, numM_yes hm']
        rw [h5] at hP
        have hC := fun W => terr_any (partE x.data.toList).1 W hsz
        rw [eP] at hC
        by_cases h0 : entErr (partE x.data.toList).1 = 0
        · rw [eP] at h0
          rw [readE_ok eP h0]
          rw [h0] at hC
          exact re_to_ok x _ _ _ _ _ _ _ _ w hcut hkd hg hl hF hT hN hv hP hC
        · rw [eP] at h0
          rw [readE_err eP h0]
          exact re_to_err x _ _ _ _ _ _ _ _ _ w hcut hkd hg hl hF hT hN hv hP hC (by simp only at h0 ⊢; omega)
      · rw [readE_part (c := (readP (cutA 32 (cutB 32 (cutB 32 x.data.toList)))).2) (by rw [hp]; unfold partC; simp only; rw [if_pos hm, if_neg h5]) h5]
        exact re_to_pt x _ _ _ _ _ _ _ _ _ w hcut hkd hg hl hF hT hN hv hP (by omega)
  · have e : readE x.data.toList = (zeroE, 1) := readE_part (c := 1) (by rw [hp]; unfold partC; simp only; rw [few4 h3]; rfl) (by decide)
    rw [e]
    obtain ⟨t, ht⟩ := wlen_head x.data.toList
    rw [ht] at hcut
    exact re_to_few x _ (t.map arr) _ w hcut (by simp) (by rw [← ht]; exact h3) hkd hg hl hF hT
theorem tread_from (x : ByteArray) (w : World) (hz : x.size ≤ 100000) (hk : (arr (cutA 32 x.data.toList) = kOut ∨ arr (cutA 32 x.data.toList) = kLess)) :
    Calls Tryz.prog 7 #[.string x] w fun e w' => e = .returned (.tuple #[agE (readE x.data.toList).1, .int .i64 (readE x.data.toList).2]) ∧ Below w.heap.size w w' := by
  have hd : kd (arr (cutA 32 x.data.toList)) = .frm := by rcases hk with hk | hk <;> rw [hk] <;> rfl
  have hkd : isKd (arr (cutA 32 x.data.toList)) = true := by unfold isKd; rw [hd]
  have hg : arr (cutA 32 x.data.toList) ≠ kGoods := by rcases hk with hk | hk <;> rw [hk] <;> decide
  have hl : arr (cutA 32 x.data.toList) ≠ kLot := by rcases hk with hk | hk <;> rw [hk] <;> decide
  have hF : kFrom (kd (arr (cutA 32 x.data.toList))) = true := by rw [hd]; rfl
  have hT : kTo (kd (arr (cutA 32 x.data.toList))) = false := by rw [hd]; rfl
  have hp : partE x.data.toList = partC .frm (arr (cutA 32 x.data.toList)) (cutB 32 x.data.toList) := by unfold partE; rw [hd]
  have hcut := refCutW x w hz
  obtain ⟨y0, y1, y2, y3, y4, y5, y6, y7⟩ := words_short x.data.toList
  have hsz := partE_sz x.data.toList (max_small (by rw [size_len]; exact hz))
  by_cases h3 : (splitL 32 x.data.toList).length = 4
  · obtain ⟨hs, hn⟩ := words4 h3
    rw [hs] at hcut
    simp only [List.map_cons, List.map_nil, List.length_cons, List.length_nil, Nat.zero_add, Nat.reduceAdd] at hcut
    have hN := fun W => numberOf (arr (tail2 (cutB 32 x.data.toList))) 13 W (by decide) (max_small (arr_small hz y5))
    rw [bytes_toList] at hN
    cases hm : num2 (cutB 32 x.data.toList) with
    | false =>
      have e : readE x.data.toList = (zeroE, 1) := readE_part (c := 1) (by rw [hp]; unfold partC; simp only; rw [hm]; rfl) (by decide)
      rw [e]
      rw [hn] at hm
      rw [numM_no hm] at hN
      exact re_from_num x _ _ _ _ _ w hcut hkd hg hl hF hT hN (by decide)
    | true =>
      have hm' := hm
      rw [hn] at hm'
      have hv : 0 ≤ numM 13 (tail2 (cutB 32 x.data.toList)) := by rw [numM_yes hm']; omega
      have hP := fun W => readPlace_any (arr (cutA 32 (cutB 32 (cutB 32 x.data.toList)))) W (arr_small hz y4)
      rw [bytes_toList] at hP
      by_cases h5 : (readP (cutA 32 (cutB 32 (cutB 32 x.data.toList)))).2 = 0
      · have eP : partE x.data.toList = ((arr (cutA 32 x.data.toList), zeroG, (arr (cutA 32 (cutB 32 x.data.toList)), ⟨#[]⟩, 0, 0), (readP (cutA 32 (cutB 32 (cutB 32 x.data.toList)))).1, zeroP, numM 13 (tail2 (cutB 32 x.data.toList))), 0) := by rw [hp]; unfold partC; simp only; rw [if_pos hm, if_pos h5, numM_yes hm']
        rw [h5] at hP
        have hC := fun W => terr_any (partE x.data.toList).1 W hsz
        rw [eP] at hC
        by_cases h0 : entErr (partE x.data.toList).1 = 0
        · rw [eP] at h0
          rw [readE_ok eP h0]
          rw [h0] at hC
          exact re_from_ok x _ _ _ _ _ _ _ _ w hcut hkd hg hl hF hT hN hv hP hC
        · rw [eP] at h0
          rw [readE_err eP h0]
          exact re_from_err x _ _ _ _ _ _ _ _ _ w hcut hkd hg hl hF hT hN hv hP hC (by simp only at h0 ⊢; omega)
      · rw [readE_part (c := (readP (cutA 32 (cutB 32 (cutB 32 x.data.toList)))).2) (by rw [hp]; unfold partC; simp only; rw [if_pos hm, if_neg h5]) h5]
        exact re_from_pf x _ _ _ _ _ _ _ _ _ w hcut hkd hg hl hF hT hN hv hP (by omega)
  · have e : readE x.data.toList = (zeroE, 1) := readE_part (c := 1) (by rw [hp]; unfold partC; simp only; rw [few4 h3]; rfl) (by decide)
    rw [e]
    obtain ⟨t, ht⟩ := wlen_head x.data.toList
    rw [ht] at hcut
    exact re_from_few x _ (t.map arr) _ w hcut (by simp) (by rw [← ht]; exact h3) hkd hg hl hF hT
theorem tread_move (x : ByteArray) (w : World) (hz : x.size ≤ 100000) (hk : arr (cutA 32 x.data.toList) = kMove) :
    Calls Tryz.prog 7 #[.string x] w fun e w' => e = .returned (.tuple #[agE (readE x.data.toList).1, .int .i64 (readE x.data.toList).2]) ∧ Below w.heap.size w w' := by
  have hd : kd (arr (cutA 32 x.data.toList)) = .move := by rw [hk]; rfl
  have hkd : isKd (arr (cutA 32 x.data.toList)) = true := by unfold isKd; rw [hd]
  have hg : arr (cutA 32 x.data.toList) ≠ kGoods := by rw [hk]; decide
  have hl : arr (cutA 32 x.data.toList) ≠ kLot := by rw [hk]; decide
  have hF : kFrom (kd (arr (cutA 32 x.data.toList))) = true := by rw [hd]; rfl
  have hT : kTo (kd (arr (cutA 32 x.data.toList))) = true := by rw [hd]; rfl
  have hp : partE x.data.toList = partC .move (arr (cutA 32 x.data.toList)) (cutB 32 x.data.toList) := by unfold partE; rw [hd]
  have hcut := refCutW x w hz
  obtain ⟨y0, y1, y2, y3, y4, y5, y6, y7⟩ := words_short x.data.toList
  have hsz := partE_sz x.data.toList (max_small (by rw [size_len]; exact hz))
  by_cases h3 : (splitL 32 x.data.toList).length = 5
  · obtain ⟨hs, hn⟩ := words5 h3
    rw [hs] at hcut
    simp only [List.map_cons, List.map_nil, List.length_cons, List.length_nil, Nat.zero_add, Nat.reduceAdd] at hcut
    have hN := fun W => numberOf (arr (tail3 (cutB 32 x.data.toList))) 13 W (by decide) (max_small (arr_small hz y7))
    rw [bytes_toList] at hN
    cases hm : num3 (cutB 32 x.data.toList) with
    | false =>
      have e : readE x.data.toList = (zeroE, 1) := readE_part (c := 1) (by rw [hp]; unfold partC; simp only; rw [hm]; rfl) (by decide)
      rw [e]
      rw [hn] at hm
      rw [numM_no hm] at hN
      exact re_move_num x _ _ _ _ _ _ w hcut hkd hg hl hF hT hN (by decide)
    | true =>
      have hm' := hm
      rw [hn] at hm'
      have hv : 0 ≤ numM 13 (tail3 (cutB 32 x.data.toList)) := by rw [numM_yes hm']; omega
      have hP := fun W => readPlace_any (arr (cutA 32 (cutB 32 (cutB 32 x.data.toList)))) W (arr_small hz y4)
      rw [bytes_toList] at hP
      by_cases h5 : (readP (cutA 32 (cutB 32 (cutB 32 x.data.toList)))).2 = 0
      · rw [h5] at hP
        have hQ := fun W => readPlace_any (arr (cutA 32 (tail2 (cutB 32 x.data.toList)))) W (arr_small hz y6)
        rw [bytes_toList] at hQ
        by_cases h6 : (readP (cutA 32 (tail2 (cutB 32 x.data.toList)))).2 = 0
        · have eP : partE x.data.toList = ((arr (cutA 32 x.data.toList), zeroG, (arr (cutA 32 (cutB 32 x.data.toList)), ⟨#[]⟩, 0, 0), (readP (cutA 32 (cutB 32 (cutB 32 x.data.toList)))).1, (readP (cutA 32 (tail2 (cutB 32 x.data.toList)))).1, numM 13 (tail3 (cutB 32 x.data.toList))), 0) := by rw [hp]; unfold partC; simp only; rw [if_pos hm, if_pos h5, if_pos h6, numM_yes hm']
          rw [h6] at hQ
          have hC := fun W => terr_any (partE x.data.toList).1 W hsz
          rw [eP] at hC
          by_cases h0 : entErr (partE x.data.toList).1 = 0
          · rw [eP] at h0
            rw [readE_ok eP h0]
            rw [h0] at hC
            exact re_move_ok x _ _ _ _ _ _ _ _ _ _ _ _ w hcut hkd hg hl hF hT hN hv hP hQ hC
          · rw [eP] at h0
            rw [readE_err eP h0]
            exact re_move_err x _ _ _ _ _ _ _ _ _ _ _ _ _ w hcut hkd hg hl hF hT hN hv hP hQ hC (by simp only at h0 ⊢; omega)
        · rw [readE_part (c := (readP (cutA 32 (tail2 (cutB 32 x.data.toList)))).2) (by rw [hp]; unfold partC; simp only; rw [if_pos hm, if_pos h5, if_neg h6]) h6]
          exact re_move_pt x _ _ _ _ _ _ _ _ _ _ _ _ _ w hcut hkd hg hl hF hT hN hv hP hQ (by omega)
      · rw [readE_part (c := (readP (cutA 32 (cutB 32 (cutB 32 x.data.toList)))).2) (by rw [hp]; unfold partC; simp only; rw [if_pos hm, if_neg h5]) h5]
        exact re_move_pf x _ _ _ _ _ _ _ _ _ _ w hcut hkd hg hl hF hT hN hv hP (by omega)
  · have e : readE x.data.toList = (zeroE, 1) := readE_part (c := 1) (by rw [hp]; unfold partC; simp only; rw [few5 h3]; rfl) (by decide)
    rw [e]
    obtain ⟨t, ht⟩ := wlen_head x.data.toList
    rw [ht] at hcut
    exact re_move_few x _ (t.map arr) _ w hcut (by simp) (by rw [← ht]; exact h3) hkd hg hl hF hT
/-- ReadEntry. -/
theorem tread_any (x : ByteArray) (w : World) (hz : x.size ≤ 100000) :
    Calls Tryz.prog 7 #[.string x] w fun e w' => e = .returned (.tuple #[agE (readE x.data.toList).1, .int .i64 (readE x.data.toList).2]) ∧ Below w.heap.size w w' := by
  rcases kind_cases (arr (cutA 32 x.data.toList)) with h | h | h | h | h | h | h
  · exact tread_goods x w hz h
  · exact tread_lot x w hz h
  · exact tread_to x w hz h
  · exact tread_from x w hz h
  · exact tread_move x w hz h
  · exact tread_hold x w hz h
  · exact tread_other x w hz h
end Go.Proofs.YtgdhfipbbijngaaGreatDoor
