/-
  Plain mathematics of numbers as text and of pieces as cases and pieces: what is written is read. No program stands here.
-/
import Derived.Lib.ItoaNum
import Derived.Lib.IndexLaws
namespace Go.Proofs.YtefkchmahcjleaaDoor
open Go.Lib

def dig (c : UInt8) : Bool := decide (48 ≤ c.toNat) && decide (c.toNat ≤ 57)
def numVal (l : List UInt8) : Nat := l.foldl (fun n c => n * 10 + (c.toNat - 48)) 0
def isNum (most : Nat) (l : List UInt8) : Bool := !l.isEmpty && decide (l.length ≤ most) && !(decide (1 < l.length) && decide ((l.headD 0).toNat = 48)) && l.all dig

/-- The number, or 0. -/
def numR (most : Nat) (l : List UInt8) : Int := if isNum most l then numVal l else 0
theorem numR_yes {most : Nat} {l : List UInt8} (h : isNum most l = true) : numR most l = numVal l := by unfold numR; rw [if_pos h]
theorem numR_no {most : Nat} {l : List UInt8} (h : isNum most l = false) : numR most l = 0 := by unfold numR; rw [if_neg (by rw [h]; decide)]

theorem numVal_snoc (l : List UInt8) (c : UInt8) : numVal (l ++ [c]) = numVal l * 10 + (c.toNat - 48) := by simp [numVal]
theorem foldl_lt : ∀ (l : List UInt8) (a : Nat), l.all dig = true → l.foldl (fun n c => n * 10 + (c.toNat - 48)) a < (a + 1) * 10 ^ l.length
  | [], a, _ => by simp
  | c :: l, a, h => by
    simp only [List.all_cons, Bool.and_eq_true] at h
    have hc : c.toNat ≤ 57 := by have := h.1; simp [dig] at this; exact this.2
    have ih := foldl_lt l (a * 10 + (c.toNat - 48)) h.2
    have h2 : (a * 10 + (c.toNat - 48) + 1) * 10 ^ l.length ≤ (a + 1) * 10 * 10 ^ l.length := Nat.mul_le_mul_right _ (by omega)
    rw [List.foldl_cons, List.length_cons, Nat.pow_succ, Nat.mul_comm (10 ^ l.length) 10, ← Nat.mul_assoc]
    omega
theorem numVal_lt (l : List UInt8) (h : l.all dig = true) : numVal l < 10 ^ l.length := by
  have := foldl_lt l 0 h
  simpa [numVal] using this

theorem ofNat_toNat {k : Nat} (h : k < 256) : (UInt8.ofNat k).toNat = k := by simp; omega
theorem dig_ofNat {k : Nat} (h : k < 10) : dig (UInt8.ofNat (48 + k)) = true := by
  have e : (UInt8.ofNat (48 + k)).toNat = 48 + k := ofNat_toNat (by omega)
  unfold dig
  rw [e, decide_eq_true (by omega), decide_eq_true (by omega)]; rfl

theorem decDigits_facts (u : Nat) : (decDigits u).all dig = true ∧ numVal (decDigits u) = u ∧ decDigits u ≠ [] ∧ ((decDigits u).headD 0).toNat = 48 + (if u = 0 then 0 else (((decDigits u).headD 0).toNat - 48)) ∧ (u ≠ 0 → ((decDigits u).headD 0).toNat ≠ 48) := by
  induction u using Nat.strongRecOn with
  | _ u ih =>
    by_cases h : u < 10
    · have e : (UInt8.ofNat (48 + u)).toNat = 48 + u := ofNat_toNat (by omega)
      rw [decDigits, dif_pos h]
      refine ⟨by rw [List.all_cons, dig_ofNat h]; rfl, by simp only [numVal, List.foldl_cons, List.foldl_nil]; rw [e]; omega, by simp, ?_, ?_⟩
      · simp only [List.headD_cons]; rw [e]; split <;> omega
      · intro h0; simp only [List.headD_cons]; rw [e]; omega
    · obtain ⟨h1, h2, h3, h4, h5⟩ := ih (u / 10) (by omega)
      have e : (UInt8.ofNat (48 + u % 10)).toNat = 48 + u % 10 := ofNat_toNat (by omega)
      rw [decDigits, dif_neg h]
      have hh : (decDigits (u / 10) ++ [UInt8.ofNat (48 + u % 10)]).headD 0 = (decDigits (u / 10)).headD 0 := by
        cases hd : decDigits (u / 10) with
        | nil => exact absurd hd h3
        | cons a r => rfl
      have h5' := h5 (by omega)
      have hge : 48 ≤ ((decDigits (u / 10)).headD 0).toNat := by
        rw [h4]; exact Nat.le_add_right _ _
      refine ⟨by rw [List.all_append, h1]; rw [List.all_cons, dig_ofNat (Nat.mod_lt u (by decide : 10 > 0))]; rfl, by rw [numVal_snoc, h2, e]; omega, by simp, ?_, ?_⟩
      · rw [hh, if_neg (by omega)]; omega
      · intro _; rw [hh]; exact h5'

theorem numVal_dec (u : Nat) : numVal (decDigits u) = u := (decDigits_facts u).2.1
theorem all_dec (u : Nat) : (decDigits u).all dig = true := (decDigits_facts u).1
theorem dec_ne (u : Nat) : decDigits u ≠ [] := (decDigits_facts u).2.2.1
theorem nDigits_le : ∀ (k u : Nat), 1 ≤ k → u < 10 ^ k → nDigits u ≤ k := by
  intro k u hk h
  by_cases h0 : u < 10
  · rw [nDigits_small h0]; exact hk
  · obtain ⟨j, hj⟩ : ∃ j, nDigits u = j + 1 := ⟨nDigits u - 1, by have := nDigits_pos u; omega⟩
    rcases Nat.lt_or_ge k (nDigits u) with hlt | hge
    · exfalso
      have hle : ∀ u, 10 ^ (nDigits u - 1) ≤ u ∨ u = 0 := by
        intro u
        induction u using Nat.strongRecOn with
        | _ u ih =>
          by_cases h0 : u < 10
          · rw [nDigits_small h0]; simp; omega
          · rcases ih (u / 10) (by omega) with h1 | h1
            · left
              rw [nDigits_big h0]
              have hp := nDigits_pos (u / 10)
              obtain ⟨m, hm⟩ : ∃ m, nDigits (u / 10) = m + 1 := ⟨nDigits (u / 10) - 1, by omega⟩
              rw [hm] at h1 ⊢
              simp only [Nat.add_sub_cancel] at h1 ⊢
              rw [Nat.pow_succ]
              omega
            · omega
      rcases hle u with h1 | h1
      · have : 10 ^ k ≤ 10 ^ (nDigits u - 1) := Nat.pow_le_pow_right (by decide) (by omega)
        omega
      · omega
    · exact hge
theorem isNum_dec (most u : Nat) (hm : 1 ≤ most) (h : u < 10 ^ most) : isNum most (decDigits u) = true := by
  have h1 := nDigits_le most u hm h
  have h2 := (decDigits_facts u).2.2.2.2
  unfold isNum
  rw [decDigits_length, all_dec]
  have e1 : (decDigits u).isEmpty = false := by rw [List.isEmpty_eq_false_iff]; exact dec_ne u
  rw [e1, decide_eq_true h1]
  by_cases h0 : u = 0
  · subst h0
    rw [nDigits_small (by decide)]; rfl
  · rw [decide_eq_false (h2 h0)]; simp

/- a text without a sign, and cut at its first one -/
def pre (c : UInt8) (l : List UInt8) : List UInt8 := l.takeWhile (· != c)
def post (c : UInt8) (l : List UInt8) : List UInt8 := (l.dropWhile (· != c)).drop 1
def has (c : UInt8) (l : List UInt8) : Bool := l.any (· == c)

theorem indexByte_eq (c : UInt8) : ∀ l : List UInt8, indexByte l c = if has c l then ((pre c l).length : Int) else -1
  | [] => rfl
  | b :: l => by
    have ih := indexByte_eq c l
    unfold indexByte
    by_cases h : b = c
    · subst h; simp [has, pre]
    · have hb : (b == c) = false := by simpa using h
      have hb' : (b != c) = true := by simp [bne, hb]
      rw [hb, if_neg (by decide), ih]
      by_cases hh : has c l = true
      · have hh' : has c (b :: l) = true := by unfold has at *; simp only [List.any_cons, hb, Bool.false_or]; exact hh
        rw [hh, hh']
        simp only [if_true]
        have hp : pre c (b :: l) = b :: pre c l := by unfold pre; rw [List.takeWhile_cons, hb']; rfl
        rw [hp]
        have hne : (((pre c l).length : Int) == -1) = false := by
          rw [beq_eq_false_iff_ne]; omega
        rw [hne]
        simp
      · have hh2 : has c l = false := by simpa using hh
        have hh' : has c (b :: l) = false := by unfold has at *; simp only [List.any_cons, hb, Bool.false_or]; exact hh2
        rw [hh2, hh']
        simp
theorem take_pre (c : UInt8) : ∀ l : List UInt8, l.take (pre c l).length = pre c l
  | [] => rfl
  | b :: l => by
    unfold pre
    rw [List.takeWhile_cons]
    split
    · have := take_pre c l; unfold pre at this; simp [this]
    · rfl
theorem drop_pre (c : UInt8) : ∀ l : List UInt8, l.drop ((pre c l).length + 1) = post c l
  | [] => rfl
  | b :: l => by
    unfold pre post
    rw [List.takeWhile_cons, List.dropWhile_cons]
    split
    · have := drop_pre c l; unfold pre post at this; simpa using this
    · simp
theorem pre_length_le (c : UInt8) (l : List UInt8) : (pre c l).length ≤ l.length := by
  have := congrArg List.length (take_pre c l)
  rw [List.length_take] at this
  omega
theorem pre_length_lt (c : UInt8) : ∀ l : List UInt8, has c l = true → (pre c l).length < l.length
  | [], h => by cases h
  | b :: l, h => by
    unfold pre
    rw [List.takeWhile_cons]
    split
    · rename_i hb
      have hb' : (b == c) = false := by simpa [bne] using hb
      have hh : has c l = true := by unfold has at *; simpa only [List.any_cons, hb', Bool.false_or] using h
      have := pre_length_lt c l hh
      unfold pre at this
      simp; omega
    · simp
/-- Of a text whose first part lacks the sign. -/
theorem pre_append (c : UInt8) : ∀ (a b : List UInt8), has c a = false → pre c (a ++ c :: b) = a ∧ post c (a ++ c :: b) = b ∧ has c (a ++ c :: b) = true
  | [], b, _ => by simp [pre, post, has]
  | x :: a, b, h => by
    have hx : (x == c) = false := by unfold has at h; simp only [List.any_cons, Bool.or_eq_false_iff] at h; exact h.1
    have ha : has c a = false := by unfold has at *; simp only [List.any_cons, Bool.or_eq_false_iff] at h; exact h.2
    obtain ⟨h1, h2, h3⟩ := pre_append c a b ha
    have hx' : (x != c) = true := by simp [bne, hx]
    unfold pre post has at *
    refine ⟨?_, ?_, ?_⟩
    · rw [List.cons_append, List.takeWhile_cons, hx']; simp [h1]
    · rw [List.cons_append, List.dropWhile_cons, hx']; exact h2
    · rw [List.cons_append, List.any_cons, h3]; simp
theorem has_dig {l : List UInt8} (h : l.all dig = true) : has 99 l = false := by
  unfold has
  rw [List.any_eq_false]
  intro x hx he
  have hd := List.all_eq_true.1 h x hx
  have : x = 99 := by simpa using he
  subst this
  exact absurd hd (by decide)
theorem has_dec (u : Nat) : has 99 (decDigits u) = false := has_dig (all_dec u)

/- pieces -/
def maxQ : Int := 1099511627776
def partsOf (l : List UInt8) : Option (Nat × Nat) :=
  if has 99 l then
    if isNum 13 (pre 99 l) && decide (0 < numVal (pre 99 l)) then
      if (post 99 l).isEmpty then some (numVal (pre 99 l), 0)
      else if isNum 13 (post 99 l) && decide (0 < numVal (post 99 l)) then some (numVal (pre 99 l), numVal (post 99 l)) else none
    else none
  else if isNum 13 l then some (0, numVal l) else none
def pw (p : Int) : Bool := decide (1 ≤ p) && decide (p ≤ 1000)
/-- What goods.Read answers, with the error's number. -/
def readOf (l : List UInt8) (pack : Int) : Int × Nat :=
  if pw pack then
    match partsOf l with
    | none => (0, 1)
    | some (c, p) => if maxQ < (c : Int) * pack + p then (0, 2) else ((c : Int) * pack + p, 0)
  else (0, 2)
/-- What goods.Text answers. -/
def textOf (n pack : Int) : List UInt8 :=
  if 0 ≤ n ∧ n ≤ maxQ ∧ pw pack then
    if pack = 1 ∨ n < pack then decDigits n.toNat
    else decDigits (n / pack).toNat ++ 99 :: (if n % pack = 0 then [] else decDigits (n % pack).toNat)
  else []

theorem parts_dec (u : Nat) (h : u < 10 ^ 13) : partsOf (decDigits u) = some (0, u) := by
  unfold partsOf
  rw [has_dec, if_neg (by decide), isNum_dec 13 u (by decide) h, numVal_dec]; rfl
theorem parts_case (u v : Nat) (h : u < 10 ^ 13) (h0 : 0 < u) (hv : v < 10 ^ 13) : partsOf (decDigits u ++ 99 :: (if v = 0 then [] else decDigits v)) = some (u, v) := by
  obtain ⟨h1, h2, h3⟩ := pre_append 99 (decDigits u) (if v = 0 then [] else decDigits v) (has_dec u)
  unfold partsOf
  rw [h1, h2, h3, if_pos rfl, isNum_dec 13 u (by decide) h, numVal_dec, decide_eq_true h0]
  by_cases hv0 : v = 0
  · subst hv0; rfl
  · rw [if_neg hv0]
    have e1 : (decDigits v).isEmpty = false := by rw [List.isEmpty_eq_false_iff]; exact dec_ne v
    rw [e1, isNum_dec 13 v (by decide) hv, numVal_dec, decide_eq_true (by omega : 0 < v)]; rfl

theorem read_text (n pack : Int) (h0 : 0 ≤ n) (h1 : n ≤ maxQ) (hp : pw pack = true) : readOf (textOf n pack) pack = (n, 0) := by
  have hp' : 1 ≤ pack ∧ pack ≤ 1000 := by unfold pw at hp; simpa using hp
  unfold maxQ at h1
  unfold readOf textOf
  rw [if_pos hp, if_pos ⟨h0, by unfold maxQ; exact h1, hp⟩]
  have hq := Int.mul_ediv_add_emod n pack
  have hr0 := Int.emod_nonneg n (show pack ≠ 0 by omega)
  have hr1 := Int.emod_lt_of_pos n (show 0 < pack by omega)
  have hd : n / pack ≤ n := Int.ediv_le_self pack h0
  by_cases hc : pack = 1 ∨ n < pack
  · rw [if_pos hc, parts_dec n.toNat (by omega)]
    have e : ((0 : Nat) : Int) * pack + (n.toNat : Int) = n := by simp; omega
    simp only [e]
    rw [if_neg (by unfold maxQ; omega)]
  · rw [if_neg hc]
    have hpos : 0 < n / pack := by
      rcases Int.lt_or_le 0 (n / pack) with h | h
      · exact h
      · have : pack * (n / pack) ≤ 0 := Int.mul_nonpos_of_nonneg_of_nonpos (by omega) h
        omega
    have hz : (n % pack = 0) = ((n % pack).toNat = 0) := by apply propext; omega
    simp only [hz]
    rw [parts_case (n / pack).toNat (n % pack).toNat (by omega) (by omega) (by omega)]
    have e : (((n / pack).toNat : Nat) : Int) * pack + ((n % pack).toNat : Int) = n := by
      rw [Int.toNat_of_nonneg (by omega), Int.toNat_of_nonneg hr0, Int.mul_comm]; omega
    simp only [e]
    rw [if_neg (by unfold maxQ; omega)]
theorem text_inj (n m pack : Int) (h0 : 0 ≤ n) (h1 : n ≤ maxQ) (g0 : 0 ≤ m) (g1 : m ≤ maxQ) (hp : pw pack = true) (h : textOf n pack = textOf m pack) : n = m := by
  have e1 := read_text n pack h0 h1 hp
  have e2 := read_text m pack g0 g1 hp
  rw [h, e2] at e1
  exact (congrArg Prod.fst e1).symm
end Go.Proofs.YtefkchmahcjleaaDoor
