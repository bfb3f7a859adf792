/-
  What the reference's ReadPieces answers: readOf.
-/
import Derived.Test.YtmgjjmgponebcaaDoorRefGoods
namespace Go.Proofs.YtmgjjmgponebcaaDoor
open Go.RowKit Go.Lib Go.Sort

theorem pre_take_of (c : UInt8) : ∀ (l : List UInt8) (k : Nat), has c (l.take k) = false → l[k]? = some c → (pre c l).length = k ∧ has c l = true
  | [], k, _, h => by simp at h
  | b :: l, 0, _, h => by
    simp at h
    subst h
    simp [pre, has]
  | b :: l, k + 1, h, h2 => by
    have hb : (b == c) = false := by unfold has at h; simp only [List.take_succ_cons, List.any_cons, Bool.or_eq_false_iff] at h; exact h.1
    have hr : has c (l.take k) = false := by unfold has at *; simp only [List.take_succ_cons, List.any_cons, Bool.or_eq_false_iff] at h; exact h.2
    obtain ⟨e1, e2⟩ := pre_take_of c l k hr (by simpa using h2)
    have hb' : (b != c) = true := by simp [bne, hb]
    unfold pre has at *
    refine ⟨?_, ?_⟩
    · rw [List.takeWhile_cons, hb']; simp [e1]
    · rw [List.any_cons, e2]; simp
theorem has_snoc (c : UInt8) (l : List UInt8) (b : UInt8) : has c (l ++ [b]) = (has c l || (b == c)) := by simp [has]

/-- A text's number and code as values. -/
abbrev two (r : Int × Nat) : Value := .tuple #[.int .i64 r.1, .int .i64 (r.2 : Int)]

theorem readOf_bad (l : List UInt8) (pack : Int) (hp : pw pack = true) (h : partsOf l = none) : readOf l pack = (0, 1) := by
  unfold readOf; rw [if_pos hp, h]
theorem readOf_good (l : List UInt8) (pack : Int) (hp : pw pack = true) (c p : Nat) (h : partsOf l = some (c, p)) (hq : (c : Int) * pack + p ≤ maxQ) : readOf l pack = ((c : Int) * pack + p, 0) := by
  unfold readOf; rw [if_pos hp, h]; simp only; rw [if_neg (by omega)]
theorem readOf_much (l : List UInt8) (pack : Int) (hp : pw pack = true) (c p : Nat) (h : partsOf l = some (c, p)) (hq : maxQ < (c : Int) * pack + p) : readOf l pack = (0, 2) := by
  unfold readOf; rw [if_pos hp, h]; simp only; rw [if_pos hq]
theorem readOf_pack (l : List UInt8) (pack : Int) (hp : pw pack = false) : readOf l pack = (0, 2) := by
  unfold readOf; rw [if_neg (by rw [hp]; decide)]

theorem partsOf_none1 {l : List UInt8} (hh : has 99 l = true) (h1 : oneB (pre 99 l) = false) : partsOf l = none := by
  unfold partsOf
  unfold oneB at h1
  rw [if_pos hh, h1]; rfl
theorem partsOf_end {l : List UInt8} (hh : has 99 l = true) (h1 : oneB (pre 99 l) = true) (h2 : post 99 l = []) : partsOf l = some (numVal (pre 99 l), 0) := by
  unfold partsOf
  unfold oneB at h1
  rw [if_pos hh, h1, h2]; rfl
theorem partsOf_two {l : List UInt8} (hh : has 99 l = true) (h1 : oneB (pre 99 l) = true) (h2 : post 99 l ≠ []) (h3 : oneB (post 99 l) = true) : partsOf l = some (numVal (pre 99 l), numVal (post 99 l)) := by
  have he : (post 99 l).isEmpty = false := by rw [List.isEmpty_eq_false_iff]; exact h2
  unfold partsOf
  unfold oneB at h1 h3
  rw [if_pos hh, h1, he, h3]; rfl
theorem partsOf_none2 {l : List UInt8} (hh : has 99 l = true) (h1 : oneB (pre 99 l) = true) (h2 : post 99 l ≠ []) (h3 : oneB (post 99 l) = false) : partsOf l = none := by
  have he : (post 99 l).isEmpty = false := by rw [List.isEmpty_eq_false_iff]; exact h2
  unfold partsOf
  unfold oneB at h1 h3
  rw [if_pos hh, h1, he, h3]; rfl
theorem partsOf_plain {l : List UInt8} (hh : has 99 l = false) : partsOf l = if isNum 13 l then some (0, numVal l) else none := by
  unfold partsOf
  rw [hh]; rfl
theorem numM_one {l : List UInt8} (h : oneB l = true) : numM 13 l = numVal l ∧ 1 ≤ numVal l ∧ numVal l < 10000000000000 := by
  obtain ⟨h1, h2⟩ := oneB_val h
  exact ⟨numM_yes h1, h2, isNum_lt h1⟩
theorem numM_small {l : List UInt8} (h : oneB l = false) : numM 13 l = -1 ∨ numM 13 l = 0 := by
  unfold oneB at h
  cases hn : isNum 13 l with
  | false => exact Or.inl (numM_no hn)
  | true =>
    rw [hn] at h
    simp at h
    rw [numM_yes hn, h]
    exact Or.inr rfl
theorem extract_pre (s : ByteArray) (k : Nat) (h : (pre 99 s.data.toList).length = k) : (s.extract 0 k).data.toList = pre 99 s.data.toList := by
  rw [extract_eq, ← h]; simp [take_pre]
theorem extract_post (s : ByteArray) (k : Nat) (h : (pre 99 s.data.toList).length = k) : (s.extract (k + 1) s.size).data.toList = post 99 s.data.toList := by
  rw [extract_eq, ← h, drop_pre, List.take_of_length_le, bytes_toList]
  rw [← drop_pre, List.length_drop, size_len]; exact Nat.le_refl _
theorem extract_size_le (s : ByteArray) (a b : Nat) (hz : s.size ≤ maxLen) : (s.extract a b).size ≤ maxLen := by
  rw [← size_len, extract_eq, bytes_toList, List.length_take, List.length_drop, size_len]
  omega
theorem mul_bounds (c pack : Int) (c0 : 0 ≤ c) (c1 : c ≤ 10000000000000) (p1 : 1 ≤ pack) (p2 : pack ≤ 1000) : 0 ≤ c * pack ∧ c ≤ c * pack ∧ c * pack ≤ 10000000000000000 := by
  refine ⟨Int.mul_nonneg c0 (by omega), ?_, ?_⟩
  · have := Int.mul_le_mul_of_nonneg_left p1 c0
    omega
  · have := Int.mul_le_mul c1 p2 (by omega : 0 ≤ pack) (by decide : (0 : Int) ≤ 10000000000000)
    omega

set_option maxHeartbeats 2000000 in
theorem rp_in (s : ByteArray) (pack : Int) (w : World) (hz : s.size ≤ maxLen) (p1 : 1 ≤ pack) (p2 : pack ≤ 1000) :
    Calls Tryd.prog 12 #[.string s, .int .i64 pack] w fun e w' => e = .returned (two (readOf s.data.toList pack)) ∧ w' = w := by
  have hz0 := hz
  unfold maxLen at hz
  go_enter Tryd.func12, Tryd.ntmps12
  go_wp2
  go_loop [6] (fun i => ∃ k : Nat, k ≤ s.size ∧ i = .int .i64 k ∧ has 99 (s.data.toList.take k) = false) (fun i => s.size - (RowKit.intOf i).toNat)
  case atStart => exact ⟨0, Nat.zero_le _, rfl, rfl⟩
  case round =>
    obtain ⟨k, hk, rfl, hno⟩ := hrel
    have HN : Hid (has 99 (s.data.toList.take k) = false) := hno
    clear hno
    by_cases hlt : k < s.size
    · have hb : 0 ≤ (s[k].toNat : Int) ∧ (s[k].toNat : Int) ≤ 255 := by have := s[k].toNat_lt; omega
      by_cases hc : (s[k].toNat : Int) = 99
      · have hc' : ((s[k].toNat : Int) != 99) = false := by simp [hc]
        have hck : s[k] = (99 : UInt8) := by
          apply UInt8.toNat_inj.1
          show _ = 99
          omega
        have hget : s.data.toList[k]? = some 99 := by
          rw [List.getElem?_eq_getElem (by rw [size_len]; exact hlt)]
          exact congrArg some hck
        obtain ⟨hpl, hh⟩ := pre_take_of 99 s.data.toList k HN.out hget
        have ePre := extract_pre s k hpl
        have ePost := extract_post s k hpl
        have hpw : pw pack = true := by unfold pw; rw [decide_eq_true p1, decide_eq_true p2]; rfl
        have nA := numberOf (s.extract 0 k) 13 w (by decide) (extract_size_le s 0 k hz0)
        have nB := numberOf (s.extract (k + 1) s.size) 13 w (by decide) (extract_size_le s (k + 1) s.size hz0)
        rw [ePre] at nA
        rw [ePost] at nB
        cases h1 : oneB (pre 99 s.data.toList) with
        | false =>
          have ER : Hid (readOf s.data.toList pack = (0, 1)) := readOf_bad _ pack hpw (partsOf_none1 hh h1)
          have ha := numM_small h1
          generalize numM 13 (pre 99 s.data.toList) = a at *
          have ha' : a ≤ 0 := by omega
          clear hc hck hget hpl hh ePre ePost nB h1 ha hpw
          go_wp2_with (go_at_call 23; refine nA.mono ?_; rintro e w1 ⟨rfl, rfl⟩)
          go_ret2
          exact ⟨by rw [ER.out]; rfl, rfl⟩
        | true =>
          obtain ⟨a1, a2, a3⟩ := numM_one h1
          rw [a1] at nA
          by_cases h2 : post 99 s.data.toList = []
          · have eE : s.extract (k + 1) s.size = ByteArray.empty := isEmpty_nil (by rw [ePost]; exact h2)
            have eParts := partsOf_end hh h1 h2
            have hbd := mul_bounds (numVal (pre 99 s.data.toList)) pack (by omega) (by omega) p1 p2
            have eG := readOf_good _ pack hpw _ _ eParts
            have eM := readOf_much _ pack hpw _ _ eParts
            unfold maxQ at eG eM
            generalize numVal (pre 99 s.data.toList) = c at *
            clear hc hck hget hpl hh ePre ePost nB h1 h2 hpw a1 eParts
            by_cases hq : (c : Int) * pack + (0 : Nat) ≤ 1099511627776
            · have EG : Hid (readOf s.data.toList pack = ((c : Int) * pack + (0 : Nat), 0)) := eG hq
              clear eG eM
              have hq' : (c : Int) * pack ≤ 1099511627776 := by simpa using hq
              clear hq
              go_wp2_with (go_at_call 23; refine nA.mono ?_; rintro e w1 ⟨rfl, rfl⟩)
              go_ret2
              exact ⟨by rw [EG.out]; simp [two], rfl⟩
            · have EM : Hid (readOf s.data.toList pack = (0, 2)) := eM (by omega)
              clear eG eM
              have hq' : 1099511627776 < (c : Int) * pack := by omega
              clear hq
              by_cases hc2 : (c : Int) ≤ 1099511627776
              · go_wp2_with (go_at_call 23; refine nA.mono ?_; rintro e w1 ⟨rfl, rfl⟩)
                go_ret2
                exact ⟨by rw [EM.out]; rfl, rfl⟩
              · go_wp2_with (go_at_call 23; refine nA.mono ?_; rintro e w1 ⟨rfl, rfl⟩)
                go_ret2
                exact ⟨by rw [EM.out]; rfl, rfl⟩
          · have hne : 1 ≤ (s.extract (k + 1) s.size).size := size_pos_of (by rw [ePost]; exact h2)
            have he := isEmpty_of _ hne
            have he' : ¬ (s.extract (k + 1) s.size).toList = [] := by rw [← List.isEmpty_iff, he]; decide
            cases h3 : oneB (post 99 s.data.toList) with
            | false =>
              have ER : Hid (readOf s.data.toList pack = (0, 1)) := readOf_bad _ pack hpw (partsOf_none2 hh h1 h2 h3)
              have hb2 := numM_small h3
              generalize numM 13 (post 99 s.data.toList) = b at *
              generalize numVal (pre 99 s.data.toList) = c at *
              clear hc hck hget hpl hh ePre ePost h1 h2 h3 hpw a1
              rcases hb2 with hb2 | hb2 <;> subst hb2
              · go_wp2_with (first | (go_at_call_of 23 (Value.string (s.extract 0 k)); refine nA.mono ?_; rintro e w1 ⟨rfl, rfl⟩) | (go_at_call 23; refine nB.mono ?_; rintro e w1 ⟨rfl, rfl⟩))

                go_ret2
                exact ⟨by rw [ER.out]; rfl, rfl⟩
              · go_wp2_with (first | (go_at_call_of 23 (Value.string (s.extract 0 k)); refine nA.mono ?_; rintro e w1 ⟨rfl, rfl⟩) | (go_at_call 23; refine nB.mono ?_; rintro e w1 ⟨rfl, rfl⟩))
                go_ret2
                exact ⟨by rw [ER.out]; rfl, rfl⟩
            | true =>
              obtain ⟨b1, b2, b3⟩ := numM_one h3
              rw [b1] at nB
              have eParts := partsOf_two hh h1 h2 h3
              have hbd := mul_bounds (numVal (pre 99 s.data.toList)) pack (by omega) (by omega) p1 p2
              have eG := readOf_good _ pack hpw _ _ eParts
              have eM := readOf_much _ pack hpw _ _ eParts
              unfold maxQ at eG eM
              generalize numVal (pre 99 s.data.toList) = c at *
              generalize numVal (post 99 s.data.toList) = b at *
              have b0 : ((b : Int) == 0) = false := by rw [beq_eq_false_iff_ne]; omega
              clear hc hck hget hpl hh ePre ePost h1 h2 h3 hpw a1 b1 eParts
              by_cases hq : (c : Int) * pack + b ≤ 1099511627776
              · have EG : Hid (readOf s.data.toList pack = ((c : Int) * pack + b, 0)) := eG hq
                clear eG eM
                go_wp2_with (first | (go_at_call_of 23 (Value.string (s.extract 0 k)); refine nA.mono ?_; rintro e w1 ⟨rfl, rfl⟩) | (go_at_call 23; refine nB.mono ?_; rintro e w1 ⟨rfl, rfl⟩))
                go_ret2
                exact ⟨by rw [EG.out]; rfl, rfl⟩
              · have EM : Hid (readOf s.data.toList pack = (0, 2)) := eM (by omega)
                clear eG eM
                by_cases hc2 : (c : Int) ≤ 1099511627776
                · by_cases hc3 : (b : Int) ≤ 1099511627776
                  · go_wp2_with (first | (go_at_call_of 23 (Value.string (s.extract 0 k)); refine nA.mono ?_; rintro e w1 ⟨rfl, rfl⟩) | (go_at_call 23; refine nB.mono ?_; rintro e w1 ⟨rfl, rfl⟩))
                    go_ret2
                    exact ⟨by rw [EM.out]; rfl, rfl⟩
                  · go_wp2_with (first | (go_at_call_of 23 (Value.string (s.extract 0 k)); refine nA.mono ?_; rintro e w1 ⟨rfl, rfl⟩) | (go_at_call 23; refine nB.mono ?_; rintro e w1 ⟨rfl, rfl⟩))
                    go_ret2
                    exact ⟨by rw [EM.out]; rfl, rfl⟩
                · go_wp2_with (first | (go_at_call_of 23 (Value.string (s.extract 0 k)); refine nA.mono ?_; rintro e w1 ⟨rfl, rfl⟩) | (go_at_call 23; refine nB.mono ?_; rintro e w1 ⟨rfl, rfl⟩))
                  go_ret2
                  exact ⟨by rw [EM.out]; rfl, rfl⟩
      · have hc' : ((s[k].toNat : Int) != 99) = true := by simp; omega
        have HC : Hid ((s[k] == (99 : UInt8)) = false) := by
          show _ = _
          rw [beq_eq_false_iff_ne]
          intro h
          rw [h] at hc
          exact hc rfl
        clear hc
        go_wp2
        go_round
        case rel => exact ⟨k + 1, by omega, by go_num, by rw [take_snoc s k hlt, has_snoc, HN.out, HC.out]; rfl⟩
        case measure => simp [RowKit.intOf]; omega
    · have hks : k = s.size := by omega
      have htk : s.data.toList.take k = s.data.toList := List.take_of_length_le (by rw [size_len]; omega)
      have hh : has 99 s.data.toList = false := by rw [← htk]; exact HN.out
      have eParts := partsOf_plain hh
      have hpw : pw pack = true := by unfold pw; rw [decide_eq_true p1, decide_eq_true p2]; rfl
      have nA := numberOf s 13 w (by decide) hz0
      subst hks
      clear HN htk hh
      cases h1 : isNum 13 s.data.toList with
      | false =>
        rw [h1] at eParts
        have ER : Hid (readOf s.data.toList pack = (0, 1)) := readOf_bad _ pack hpw eParts
        rw [numM_no h1] at nA
        clear eParts h1 hpw
        go_wp2_with (go_at_call 23; refine nA.mono ?_; rintro e w1 ⟨rfl, rfl⟩)
        go_ret2
        exact ⟨by rw [ER.out]; rfl, rfl⟩
      | true =>
        rw [h1, if_pos rfl] at eParts
        rw [numM_yes h1] at nA
        have hb := isNum_lt h1
        have eG := readOf_good _ pack hpw _ _ eParts
        have eM := readOf_much _ pack hpw _ _ eParts
        unfold maxQ at eG eM
        generalize numVal s.data.toList = b at *
        clear eParts h1 hpw
        by_cases hq : (b : Int) ≤ 1099511627776
        · have EG : Hid (readOf s.data.toList pack = (((0 : Nat) : Int) * pack + b, 0)) := eG (by simpa using hq)
          clear eG eM
          go_wp2_with (go_at_call 23; refine nA.mono ?_; rintro e w1 ⟨rfl, rfl⟩)
          go_ret2
          exact ⟨by rw [EG.out]; simp [two], rfl⟩
        · have EM : Hid (readOf s.data.toList pack = (0, 2)) := eM (by simp; omega)
          clear eG eM
          go_wp2_with (go_at_call 23; refine nA.mono ?_; rintro e w1 ⟨rfl, rfl⟩)
          go_ret2
          exact ⟨by rw [EM.out]; rfl, rfl⟩
end Go.Proofs.YtmgjjmgponebcaaDoor
