/-
  Plain mathematics of a stock's text: a line is read as it was written and written as it was read; so is a stock; no program is named here.
-/
import Derived.Test.YtcipbkaopnaiiacDoorKMath
import Derived.Test.YtcipbkaopnaiiacDoorPParts
import Derived.Test.YtcipbkaopnaiiacDoorPCheckA
namespace Go.Proofs.YtcipbkaopnaiiacDoor
open Go.Lib Go.Sort

theorem fold_ge : ∀ (l : List UInt8) (a : Nat), a ≤ l.foldl (fun n c => n * 10 + (c.toNat - 48)) a
  | [], a => Nat.le_refl _
  | c :: l, a => by
    rw [List.foldl_cons]
    exact Nat.le_trans (by omega) (fold_ge l _)
theorem numVal_pos {l : List UInt8} (h1 : l.all dig = true) (h2 : l ≠ []) (h3 : (l.headD 0).toNat ≠ 48) : 1 ≤ numVal l := by
  cases l with
  | nil => exact absurd rfl h2
  | cons c r =>
    simp only [List.all_cons, Bool.and_eq_true] at h1
    simp only [List.headD_cons] at h3
    have : 48 ≤ c.toNat := by have := h1.1; simp [dig] at this; exact this.1
    unfold numVal
    rw [List.foldl_cons]
    exact Nat.le_trans (by omega) (fold_ge r _)
theorem dec_num : ∀ (n : Nat) (l : List UInt8), l.length = n → l.all dig = true → l ≠ [] → (1 < l.length → (l.headD 0).toNat ≠ 48) → decDigits (numVal l) = l
  | n, l, hn, h1, h2, h3 => by
    obtain ⟨r, c, rfl⟩ : ∃ r c, l = r ++ [c] := ⟨l.dropLast, l.getLast h2, (List.dropLast_concat_getLast h2).symm⟩
    rw [List.all_append, Bool.and_eq_true] at h1
    have hc : dig c = true := by simpa using h1.2
    have hc' : 48 ≤ c.toNat ∧ c.toNat ≤ 57 := by simpa [dig] using hc
    have ec : UInt8.ofNat (48 + (c.toNat - 48)) = c := by
      rw [show 48 + (c.toNat - 48) = c.toNat by omega]; exact UInt8.ofNat_toNat
    rw [numVal_snoc]
    cases r with
    | nil =>
      have e : numVal [] = 0 := rfl
      rw [e, decDigits, dif_pos (by omega)]
      simp only [Nat.zero_mul, Nat.zero_add]
      rw [ec]; rfl
    | cons d r =>
      have hh : ((d :: r).headD 0).toNat ≠ 48 := by
        have := h3 (by simp)
        simpa using this
      have hp := numVal_pos h1.1 (by simp) hh
      have ih := dec_num r.length.succ (d :: r) rfl h1.1 (by simp) (fun _ => hh)
      rw [decDigits, dif_neg (by omega)]
      have e1 : (numVal (d :: r) * 10 + (c.toNat - 48)) / 10 = numVal (d :: r) := by omega
      have e2 : (numVal (d :: r) * 10 + (c.toNat - 48)) % 10 = c.toNat - 48 := by omega
      rw [e1, e2, ih, ec]
  termination_by n => n
  decreasing_by
    subst hn
    simp
theorem isNum_facts {most : Nat} {l : List UInt8} (h : isNum most l = true) : l.all dig = true ∧ l ≠ [] ∧ l.length ≤ most ∧ (1 < l.length → (l.headD 0).toNat ≠ 48) := by
  unfold isNum at h
  simp only [Bool.and_eq_true, Bool.not_eq_true', Bool.and_eq_false_iff, decide_eq_true_eq, decide_eq_false_iff_not] at h
  obtain ⟨⟨⟨h1, h2⟩, h3⟩, h4⟩ := h
  refine ⟨h4, by intro e; subst e; simp at h1, h2, fun h => ?_⟩
  rcases h3 with h3 | h3
  · exact absurd h h3
  · exact h3
/-- A number is written as it was read. -/
theorem dec_isNum {most : Nat} {l : List UInt8} (h : isNum most l = true) : decDigits (numVal l) = l := by
  obtain ⟨h1, h2, _, h3⟩ := isNum_facts h
  exact dec_num _ l rfl h1 h2 h3
theorem has_of_all {c : UInt8} {f : UInt8 → Bool} (hf : f c = false) {l : List UInt8} (h : l.all f = true) : has c l = false := by
  unfold has
  rw [List.any_eq_false]
  intro x hx e
  have := List.all_eq_true.1 h x hx
  rw [beq_iff_eq.1 e, hf] at this
  cases this
theorem name_all {l : List UInt8} (h : isName l = true) : l.all nameB = true := by unfold isName at h; simp only [Bool.and_eq_true] at h; exact h.1
theorem has_name {c : UInt8} (hc : nameB c = false) {l : List UInt8} (h : isName l = true) : has c l = false := has_of_all hc (name_all h)
theorem has_append (c : UInt8) (a b : List UInt8) : has c (a ++ b) = (has c a || has c b) := by unfold has; rw [List.any_append]
theorem has_cons (c d : UInt8) (b : List UInt8) : has c (d :: b) = ((d == c) || has c b) := by unfold has; rw [List.any_cons]
theorem cut_at {c : UInt8} {a : List UInt8} (b : List UInt8) (h : has c a = false) : has c (a ++ c :: b) = true ∧ cutA c (a ++ c :: b) = a ∧ cutB c (a ++ c :: b) = b := by
  obtain ⟨h1, h2, h3⟩ := pre_append c a b h
  exact ⟨h3, by rw [cutA_yes h3, h1], by rw [cutB_yes h3, h2]⟩
theorem cut_none {c : UInt8} {a : List UInt8} (h : has c a = false) : cutA c a = a := by unfold cutA; rw [h]; rfl
theorem cut_back {c : UInt8} {l : List UInt8} (h : has c l = true) : cutA c l ++ c :: cutB c l = l := by
  rw [cutA_yes h, cutB_yes h]; exact ((has_parts c l h).1).symm
theorem cutA_free {c : UInt8} (l : List UInt8) : has c (cutA c l) = false := by
  cases h : has c l with
  | true => rw [cutA_yes h]; exact (has_parts c l h).2
  | false => rw [cut_none h]; exact h

/-- A place's text, as bytes. -/
def pbytes (x : Pl) : List UInt8 := (ptext x).data.toList
theorem append_bytes (a b : ByteArray) : (a ++ b).data.toList = a.data.toList ++ b.data.toList := by simp [ByteArray.data_append]
theorem pbytes_ok {x : Pl} (h : okP x = true) : pbytes x = x.1.data.toList ++ 45 :: (decDigits x.2.1.toNat ++ 45 :: decDigits x.2.2.toNat) := by
  unfold pbytes ptext
  rw [if_pos h]
  simp only [append_bytes]
  simp
theorem dec_free (c : UInt8) (hc : dig c = false) (u : Nat) : has c (decDigits u) = false := has_of_all hc (all_dec u)
theorem pbytes_free {x : Pl} (h : okP x = true) {c : UInt8} (h1 : nameB c = false) (h2 : dig c = false) (h3 : c ≠ 45) : has c (pbytes x) = false := by
  rw [pbytes_ok h, has_append, has_cons, has_append, has_cons, has_name h1 (okP_bounds h).1, dec_free c h2, dec_free c h2]
  have : ((45 : UInt8) == c) = false := by
    cases e : ((45 : UInt8) == c) with
    | false => rfl
    | true => exact absurd (beq_iff_eq.1 e).symm h3
  simp [this]
/-- A place is read as it was written. -/
theorem readP_pbytes {x : Pl} (h : okP x = true) : readP (pbytes x) = (x, 0) := by
  obtain ⟨hn, a1, a2, a3, a4⟩ := okP_bounds h
  obtain ⟨q1, q2, q3⟩ := cut_at (c := 45) (decDigits x.2.1.toNat ++ 45 :: decDigits x.2.2.toNat) (has_name (by decide) hn)
  obtain ⟨r1, r2, r3⟩ := cut_at (c := 45) (decDigits x.2.2.toNat) (dec_free 45 (by decide) x.2.1.toNat)
  have n1 := isNum_dec 4 x.2.1.toNat (by decide) (by omega)
  have n2 := isNum_dec 4 x.2.2.toNat (by decide) (by omega)
  have e1 : plNum (pbytes x) = true := by
    unfold plNum
    rw [pbytes_ok h, q3, r2, r3, n1, n2]; rfl
  have e2 : plOf (pbytes x) = x := by
    unfold plOf
    rw [pbytes_ok h, q2, q3, r2, r3, numR_yes n1, numR_yes n2, numVal_dec, numVal_dec]
    obtain ⟨a, r, b⟩ := x
    simp only at a1 a2 a3 a4 ⊢
    rw [show ((r.toNat : Nat) : Int) = r by omega, show ((b.toNat : Nat) : Int) = b by omega]
  unfold readP
  rw [if_pos e1, e2, if_pos ((okP_err x).1 h)]
/-- A place is written as it was read. -/
theorem pbytes_readP {l : List UInt8} {x : Pl} (h : readP l = (x, 0)) : okP x = true ∧ pbytes x = l := by
  unfold readP at h
  by_cases h1 : plNum l = true
  · rw [if_pos h1] at h
    by_cases h2 : placeErr (plOf l) = 0
    · rw [if_pos h2] at h
      have e : plOf l = x := congrArg Prod.fst h
      have hok : okP x = true := by rw [← e]; exact (okP_err _).2 h2
      refine ⟨hok, ?_⟩
      have hm : isNum 4 (cutA 45 (cutB 45 l)) = true ∧ isNum 4 (cutB 45 (cutB 45 l)) = true := by unfold plNum at h1; simpa using h1
      have hz1 : has 45 (cutB 45 l) = true := by
        cases hh : has 45 (cutB 45 l) with
        | true => rfl
        | false => exact absurd (cutB_no hh) (isNum_ne hm.2)
      have hz2 : has 45 l = true := by
        cases hh : has 45 l with
        | true => rfl
        | false => rw [cutB_no hh] at hz1; cases hz1
      rw [pbytes_ok hok, ← e]
      unfold plOf
      simp only
      rw [numR_yes hm.1, numR_yes hm.2]
      simp only [Int.toNat_natCast]
      rw [dec_isNum hm.1, dec_isNum hm.2, cut_back hz1]
      simpa using cut_back hz2
    · rw [if_neg h2] at h
      exact absurd (congrArg Prod.snd h) h2
  · rw [if_neg h1] at h
    have := congrArg Prod.snd h
    simp at this

/-! ### a line -/
def lineB (l : Ln) : List UInt8 := pbytes l.1 ++ 32 :: (l.2.1.data.toList ++ 32 :: decDigits l.2.2.toNat)
def textB (m : List Ln) : List UInt8 := m.flatMap fun l => lineB l ++ [10]
def wordsK (l : List UInt8) : Bool := has 32 l && has 32 (cutB 32 l)
def numK (l : List UInt8) : Bool := wordsK l && isNum 13 (cutB 32 (cutB 32 l))
def zeroN : Ln := (zeroP, ⟨#[]⟩, 0)
def lnOf (l : List UInt8) : Ln := ((readP (cutA 32 l)).1, ⟨(cutA 32 (cutB 32 l)).toArray⟩, numVal (cutB 32 (cutB 32 l)))
def lnErr (l : List UInt8) : Nat := if numK l then (if (readP (cutA 32 l)).2 = 0 then (if isName (cutA 32 (cutB 32 l)) then (if numW (numVal (cutB 32 (cutB 32 l))) then 0 else 2) else 5) else (readP (cutA 32 l)).2) else 1
/-- A line that is read: it, or an error's number. -/
def readN (l : List UInt8) : Ln × Nat := if lnErr l = 0 then (lnOf l, 0) else (zeroN, lnErr l)
theorem lnErr_le (l : List UInt8) : lnErr l ≤ 12 := by
  unfold lnErr
  have : (readP (cutA 32 l)).2 ≤ 12 := by
    unfold readP
    have := placeErr_le (plOf (cutA 32 l))
    split
    · split
      · show 0 ≤ 12; omega
      · exact this
    · show 1 ≤ 12; omega
  repeat' split
  all_goals omega
/-- What a line that is well keeps. -/
def okN (l : Ln) : Prop := okP l.1 = true ∧ isName l.2.1.data.toList = true ∧ 1 ≤ l.2.2 ∧ l.2.2 ≤ 1099511627776
theorem lineB_free {l : Ln} (h : okN l) : has 10 (lineB l) = false := by
  unfold lineB
  rw [has_append, has_cons, has_append, has_cons, pbytes_free h.1 (by decide) (by decide) (by decide), has_name (by decide) h.2.1, dec_free 10 (by decide)]
  rfl
/-- A line is read as it was written. -/
theorem readN_lineB {l : Ln} (h : okN l) : readN (lineB l) = (l, 0) := by
  obtain ⟨h1, h2, h3, h4⟩ := h
  obtain ⟨q1, q2, q3⟩ := cut_at (c := 32) (l.2.1.data.toList ++ 32 :: decDigits l.2.2.toNat) (pbytes_free h1 (by decide) (by decide) (by decide))
  obtain ⟨r1, r2, r3⟩ := cut_at (c := 32) (decDigits l.2.2.toNat) (has_name (c := 32) (by decide) h2)
  have n1 := isNum_dec 13 l.2.2.toNat (by decide) (by omega)
  have e0 : lnErr (lineB l) = 0 := by
    unfold lnErr numK wordsK lineB
    rw [q1, q2, q3, r1, r2, r3, n1, readP_pbytes h1, numVal_dec]
    simp only [Bool.and_self, if_true]
    rw [if_pos h2, if_pos ((numW_iff _).2 (by omega))]
  have e1 : lnOf (lineB l) = l := by
    unfold lnOf lineB
    rw [q2, q3, r2, r3, readP_pbytes h1, numVal_dec]
    obtain ⟨p, c, n⟩ := l
    simp only at h3 h4 ⊢
    rw [show ((n.toNat : Nat) : Int) = n by omega]
  unfold readN
  rw [if_pos e0, e1]
/-- A line is written as it was read. -/
theorem lnOf_facts {l : List UInt8} (h : lnErr l = 0) : okN (lnOf l) ∧ lineB (lnOf l) = l := by
  unfold lnErr at h
  by_cases h1 : numK l = true
  · rw [if_pos h1] at h
    by_cases h2 : (readP (cutA 32 l)).2 = 0
    · rw [if_pos h2] at h
      by_cases h3 : isName (cutA 32 (cutB 32 l)) = true
      · rw [if_pos h3] at h
        by_cases h4 : numW (numVal (cutB 32 (cutB 32 l))) = true
        · unfold numK wordsK at h1
          simp only [Bool.and_eq_true] at h1
          obtain ⟨p1, p2⟩ := pbytes_readP (l := cutA 32 l) (x := (readP (cutA 32 l)).1) (by rw [← h2])
          refine ⟨⟨p1, by simpa [lnOf] using h3, ((numW_iff _).1 h4).1, ((numW_iff _).1 h4).2⟩, ?_⟩
          unfold lineB lnOf
          simp only [Int.toNat_natCast]
          rw [p2, dec_isNum h1.2, cut_back h1.1.2]
          exact cut_back h1.1.1
        · rw [if_neg h4] at h; omega
      · rw [if_neg h3] at h; omega
    · rw [if_neg h2] at h; exact absurd h h2
  · rw [if_neg h1] at h; omega

/-! ### a stock -/
/-- One line more: the stock with it, or an error's number. -/
def behind (m : List Ln) (x : Ln) : Bool := match m.getLast? with | some l => aheadN l x | none => true
def stepE (m : List Ln) (l : List UInt8) : Nat := if lnErr l = 0 then (if behind m (lnOf l) then putE m (lnOf l).1 (lnOf l).2.1 (lnOf l).2.2 else 10) else lnErr l
def stepM (m : List Ln) (l : List UInt8) : List Ln := putL m (lnOf l).1 (lnOf l).2.1 (lnOf l).2.2
/-- The lines of a text, from the i-th on: the stock's lines, an error's number, its place. -/
def readS (m : List Ln) (i : Nat) : List (List UInt8) → List Ln × Nat × Nat
  | [] => (m, 0, 0)
  | [l] => if l = [] then (m, 0, 0) else ([], 1, i)
  | l :: r => if stepE m l = 0 then readS (stepM m l) (i + 1) r else ([], stepE m l, i)
theorem readS_last (m : List Ln) (i : Nat) (l : List UInt8) : readS m i [l] = if l = [] then (m, 0, 0) else ([], 1, i) := by unfold readS; rfl
theorem readS_step (m : List Ln) (i : Nat) (l : List UInt8) {r : List (List UInt8)} (h : r ≠ []) : readS m i (l :: r) = if stepE m l = 0 then readS (stepM m l) (i + 1) r else ([], stepE m l, i) := by
  cases r with
  | nil => exact absurd rfl h
  | cons a r => rw [readS]; simp
theorem stepE_le (m : List Ln) (l : List UInt8) : stepE m l ≤ 12 := by
  unfold stepE
  have h1 := lnErr_le l
  have h2 := putE_le m (lnOf l).1 (lnOf l).2.1 (lnOf l).2.2
  repeat' split
  all_goals omega
/-- A line that comes behind all of a stock is laid at its end. -/
theorem behind_all {m : List Ln} (hs : Sorted m) {x : Ln} (h : behind m x = true) : ∀ l ∈ m, aheadN l x = true := by
  unfold behind at h
  cases hm : m.getLast? with
  | none => rw [List.getLast?_eq_none_iff] at hm; subst hm; simp
  | some z =>
    rw [hm] at h
    simp only at h
    obtain ⟨ys, rfl⟩ := List.getLast?_eq_some_iff.1 hm
    intro l hl
    rcases List.mem_append.1 hl with hl | hl
    · unfold Sorted at hs
      rw [List.pairwise_append] at hs
      exact aheadK_trans (hs.2.2 l hl z (by simp)) h
    · obtain rfl : l = z := by simpa using hl
      exact h
theorem insN_last : ∀ {m : List Ln} {x : Ln}, (∀ l ∈ m, aheadN l x = true) → insN x m = m ++ [x]
  | [], x, _ => rfl
  | l :: r, x, h => by
    unfold insN
    have := aheadK_asymm (h l (by simp))
    rw [← aheadN_key] at this
    rw [if_neg (by rw [this]; decide), insN_last fun y hy => h y (by simp [hy])]; rfl
theorem put_last {m : List Ln} (hs : Sorted m) {x : Ln} (h : behind m x = true) (h0 : putE m x.1 x.2.1 x.2.2 = 0) : putL m x.1 x.2.1 x.2.2 = m ++ [x] := by
  have hall := behind_all hs h
  have hne : ∀ l ∈ m, keyL l ≠ (x.1, x.2.1) := fun l hl => aheadK_ne (hall l hl)
  obtain ⟨_, _, h3, _, _⟩ := putE_zero h0
  unfold putL
  rw [if_pos h0, atL_none hne]
  unfold withL
  rw [if_neg (by omega), without_same hne]
  simp only [Int.zero_add]
  exact insN_last hall
theorem stepE_zero {m : List Ln} {l : List UInt8} (h : stepE m l = 0) : lnErr l = 0 ∧ behind m (lnOf l) = true ∧ putE m (lnOf l).1 (lnOf l).2.1 (lnOf l).2.2 = 0 := by
  unfold stepE at h
  by_cases h1 : lnErr l = 0
  · rw [if_pos h1] at h
    by_cases h2 : behind m (lnOf l) = true
    · rw [if_pos h2] at h; exact ⟨h1, h2, h⟩
    · rw [if_neg h2] at h; omega
  · rw [if_neg h1] at h; exact absurd h h1
theorem stepM_last {m : List Ln} (hs : Sorted m) {l : List UInt8} (h : stepE m l = 0) : stepM m l = m ++ [lnOf l] := by
  obtain ⟨h1, h2, h3⟩ := stepE_zero h
  exact put_last hs h2 h3
theorem textB_append (m m' : List Ln) : textB (m ++ m') = textB m ++ textB m' := by unfold textB; rw [List.flatMap_append]
theorem textB_one (l : Ln) : textB [l] = lineB l ++ [10] := by unfold textB; simp
theorem join_split (c : UInt8) : ∀ (n : Nat) (l : List UInt8), l.length ≤ n → has c l = true → l = pre c l ++ c :: post c l := fun _ l _ h => (has_parts c l h).1
/-- A text that was read is written as it was. -/
theorem readS_text : ∀ (n : Nat) (s : List UInt8) (m : List Ln) (i : Nat), s.length ≤ n → Wf m → (readS m i (splitL 10 s)).2.1 = 0 → Wf (readS m i (splitL 10 s)).1 ∧ textB (readS m i (splitL 10 s)).1 = textB m ++ s
  | n, s, m, i, hn, hw, h => by
    cases hh : has 10 s with
    | false =>
      rw [split_none hh, readS_last] at h ⊢
      by_cases h0 : s = []
      · subst h0; simp [hw]
      · rw [if_neg h0] at h; simp at h
    | true =>
      rw [split_some hh, readS_step _ _ _ (split_pos 10 _)] at h ⊢
      by_cases h0 : stepE m (pre 10 s) = 0
      · rw [if_pos h0] at h ⊢
        have hlt := pre_length_lt 10 s hh
        have hpl : (post 10 s).length < s.length := by rw [← drop_pre, List.length_drop]; omega
        obtain ⟨h1, h2, h3⟩ := stepE_zero h0
        have hw' : Wf (stepM m (pre 10 s)) := hw.put _ _ _
        cases n with
        | zero => omega
        | succ n =>
          obtain ⟨r1, r2⟩ := readS_text n (post 10 s) (stepM m (pre 10 s)) (i + 1) (by omega) hw' h
          refine ⟨r1, ?_⟩
          rw [r2, stepM_last hw.sorted h0, textB_append, textB_one, (lnOf_facts h1).2, List.append_assoc, List.append_assoc]
          congr 1
          simpa using ((has_parts 10 s hh).1).symm
      · rw [if_neg h0] at h
        exact absurd h h0
/-- A stock that was written is read as it was. -/
theorem readS_back : ∀ (r m : List Ln) (i : Nat), Wf (m ++ r) → readS m i (splitL 10 (textB r)) = (m ++ r, 0, 0)
  | [], m, i, _ => by
    have : textB [] = [] := rfl
    rw [this, split_none rfl, readS_last]; simp
  | x :: r, m, i, hw => by
    have e : textB (x :: r) = lineB x ++ 10 :: textB r := by unfold textB; simp
    have hx := hw.ok x (by simp)
    have hok : okN x := ⟨hx.1, hx.2.1, hx.2.2, hw.qty (by simp)⟩
    obtain ⟨q1, q2, q3⟩ := pre_append 10 (lineB x) (textB r) (lineB_free hok)
    have hr := readN_lineB hok
    unfold readN at hr
    have e0 : lnErr (lineB x) = 0 := by
      by_cases h : lnErr (lineB x) = 0
      · exact h
      · rw [if_neg h] at hr; exact absurd (congrArg Prod.snd hr) h
    rw [if_pos e0] at hr
    have e1 : lnOf (lineB x) = x := congrArg Prod.fst hr
    have hs := hw.sorted
    unfold Sorted at hs
    rw [List.pairwise_append] at hs
    have hm : Sorted m := hs.1
    have hall : ∀ l ∈ m, aheadN l x = true := fun l hl => hs.2.2 l hl x (by simp)
    have hbe : behind m x = true := by
      unfold behind
      cases hg : m.getLast? with
      | none => rfl
      | some z => exact hall z (List.mem_of_getLast? hg)
    have hne : ∀ l ∈ m, keyL l ≠ (x.1, x.2.1) := fun l hl => aheadK_ne (hall l hl)
    have hmost := hw.most x.2.1
    have hlen := hw.len
    have hpos : ∀ c, 0 ≤ ofL r c := fun c => ofL_nonneg (fun l hl => hw.pos l (by simp [hl])) c
    rw [ofL_append, ofL_cons, if_pos rfl] at hmost
    simp only [List.length_append, List.length_cons] at hlen
    have hput : putE m x.1 x.2.1 x.2.2 = 0 := by
      have := hpos x.2.1
      have hq := hok.2.2
      unfold putE
      rw [if_pos ((okP_err _).1 hok.1), if_pos hok.2.1, if_pos (by simp only [Bool.and_eq_true, decide_eq_true_eq, numW_iff]; omega), if_neg (by omega)]
    have hst : stepE m (lineB x) = 0 := by unfold stepE; rw [if_pos e0, e1, if_pos hbe, hput]
    have hsm : stepM m (lineB x) = m ++ [x] := by rw [stepM_last hm hst, e1]
    rw [e, split_some q3, q1, q2, readS_step _ _ _ (split_pos 10 _), if_pos hst, hsm, readS_back r (m ++ [x]) (i + 1) (by simpa using hw)]
    simp
end Go.Proofs.YtcipbkaopnaiiacDoor
