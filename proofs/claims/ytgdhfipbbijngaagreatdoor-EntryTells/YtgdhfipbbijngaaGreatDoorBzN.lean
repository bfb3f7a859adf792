/-
  Plain mathematics of numbers as text and of pieces as cases and pieces: what is written is read. No program stands here. What number.Read answers, over whatever world. What strconv.Itoa answers over a world that holds strconv's table of powers; small facts of texts. What the reference's Byte, below, Decimal, NumberOf and IsName answer, and the program's goods.Name, over whatever world. What goods.Name and the reference's IsName answer, over whatever world.
-/
import Derived.Lib.ItoaNum
import Derived.Lib.IndexLaws
import Derived.Test.YtgdhfipbbijngaaGreatDoorProg
import Derived.Test.YtgdhfipbbijngaaGreatDoorShelf
import Derived.WalkKit
import Derived.BigQuiet
import Derived.WalkSmall
import Derived.Below
import Derived.Lib.LaidTab
namespace Go.Proofs.YtgdhfipbbijngaaGreatDoor
open Go.Lib

def dig (c : UInt8) : Bool := decide (48 ≤ c.toNat) && decide (c.toNat ≤ 57)
def numVal (l : List UInt8) : Nat := l.foldl (fun n c => n * 10 + (c.toNat - 48)) 0
def isNum (most : Nat) (l : List UInt8) : Bool := !l.isEmpty && decide (l.length ≤ most) && !(decide (1 < l.length) && decide ((l.headD 0).toNat = 48)) && l.all dig

/-- The number, or 0. -/
def numR (most : Nat) (l : List UInt8) : Int := if isNum most l then numVal l else 0
theorem numR_yes {most : Nat} {l : List UInt8} (h : isNum most l = true) : numR most l = numVal l := by unfold numR; rw [if_pos h]
theorem numR_no {most : Nat} {l : List UInt8} (h : isNum most l = false) : numR most l = 0 := by unfold numR; rw [if_neg (by rw [h]; decide)]

theorem numVal_snoc (l : List UInt8) (c : UInt8) : numVal (l ++ [c]) = numVal l * 10 + (c.toNat - 48) := by simp [numVal]
theorem foldl_lt : ∀ (l : List UInt8) (a : Nat), l.all dig = true → l.foldl (fun n c => n * 10 + (c.toNat - 48)) a < (a + 1) * 10 ^ l.length
  | [], a, _ => by simp
  | c :: l, a, h => by
    simp only [List.all_cons, Bool.and_eq_true] at h
    have hc : c.toNat ≤ 57 := by have := h.1; simp [dig] at this; exact this.2
    have ih := foldl_lt l (a * 10 + (c.toNat - 48)) h.2
    have h2 : (a * 10 + (c.toNat - 48) + 1) * 10 ^ l.length ≤ (a + 1) * 10 * 10 ^ l.length := Nat.mul_le_mul_right _ (by omega)
    rw [List.foldl_cons, List.length_cons, Nat.pow_succ, Nat.mul_comm (10 ^ l.length) 10, ← Nat.mul_assoc]
    omega
theorem numVal_lt (l : List UInt8) (h : l.all dig = true) : numVal l < 10 ^ l.length := by
  have := foldl_lt l 0 h
  simpa [numVal] using this

theorem ofNat_toNat {k : Nat} (h : k < 256) : (UInt8.ofNat k).toNat = k := by simp; omega
theorem dig_ofNat {k : Nat} (h : k < 10) : dig (UInt8.ofNat (48 + k)) = true := by
  have e : (UInt8.ofNat (48 + k)).toNat = 48 + k := ofNat_toNat (by omega)
  unfold dig
  rw [e, decide_eq_true (by omega), decide_eq_true (by omega)]; rfl

theorem decDigits_facts (u : Nat) : (decDigits u).all dig = true ∧ numVal (decDigits u) = u ∧ decDigits u ≠ [] ∧ ((decDigits u).headD 0).toNat = 48 + (if u = 0 then 0 else (((decDigits u).headD 0).toNat - 48)) ∧ (u ≠ 0 → ((decDigits u).headD 0).toNat ≠ 48) := by
  induction u using Nat.strongRecOn with
  | _ u ih =>
    by_cases h : u < 10
    · have e : (UInt8.ofNat (48 + u)).toNat = 48 + u := ofNat_toNat (by omega)
      rw [decDigits, dif_pos h]
      refine ⟨by rw [List.all_cons, dig_ofNat h]; rfl, by simp only [numVal, List.foldl_cons, List.foldl_nil]; rw [e]; omega, by simp, ?_, ?_⟩
      · simp only [List.headD_cons]; rw [e]; split <;> omega
      · intro h0; simp only [List.headD_cons]; rw [e]; omega
    · obtain ⟨h1, h2, h3, h4, h5⟩ := ih (u / 10) (by omega)
      have e : (UInt8.ofNat (48 + u % 10)).toNat = 48 + u % 10 := ofNat_toNat (by omega)
      rw [decDigits, dif_neg h]
      have hh : (decDigits (u / 10) ++ [UInt8.ofNat (48 + u % 10)]).headD 0 = (decDigits (u / 10)).headD 0 := by
        cases hd : decDigits (u / 10) with
        | nil => exact absurd hd h3
        | cons a r => rfl
      have h5' := h5 (by omega)
      have hge : 48 ≤ ((decDigits (u / 10)).headD 0).toNat := by
        rw [h4]; exact Nat.le_add_right _ _
      refine ⟨by rw [List.all_append, h1]; rw [List.all_cons, dig_ofNat (Nat.mod_lt u (by decide : 10 > 0))]; rfl, by rw [numVal_snoc, h2, e]; omega, by simp, ?_, ?_⟩
      · rw [hh, if_neg (by omega)]; omega
      · intro _; rw [hh]; exact h5'

theorem numVal_dec (u : Nat) : numVal (decDigits u) = u := (decDigits_facts u).2.1
theorem all_dec (u : Nat) : (decDigits u).all dig = true := (decDigits_facts u).1
theorem dec_ne (u : Nat) : decDigits u ≠ [] := (decDigits_facts u).2.2.1
theorem nDigits_le : ∀ (k u : Nat), 1 ≤ k → u < 10 ^ k → nDigits u ≤ k := by
  intro k u hk h
  by_cases h0 : u < 10
  · rw [nDigits_small h0]; exact hk
  · obtain ⟨j, hj⟩ : ∃ j, nDigits u = j + 1 := ⟨nDigits u - 1, by have := nDigits_pos u; omega⟩
    rcases Nat.lt_or_ge k (nDigits u) with hlt | hge
    · exfalso
      have hle : ∀ u, 10 ^ (nDigits u - 1) ≤ u ∨ u = 0 := by
        intro u
        induction u using Nat.strongRecOn with
        | _ u ih =>
          by_cases h0 : u < 10
          · rw [nDigits_small h0]; simp; omega
          · rcases ih (u / 10) (by omega) with h1 | h1
            · left
              rw [nDigits_big h0]
              have hp := nDigits_pos (u / 10)
              obtain ⟨m, hm⟩ : ∃ m, nDigits (u / 10) = m + 1 := ⟨nDigits (u / 10) - 1, by omega⟩
              rw [hm] at h1 ⊢
              simp only [Nat.add_sub_cancel] at h1 ⊢
              rw [Nat.pow_succ]
              omega
            · omega
      rcases hle u with h1 | h1
      · have : 10 ^ k ≤ 10 ^ (nDigits u - 1) := Nat.pow_le_pow_right (by decide) (by omega)
        omega
      · omega
    · exact hge
theorem isNum_dec (most u : Nat) (hm : 1 ≤ most) (h : u < 10 ^ most) : isNum most (decDigits u) = true := by
  have h1 := nDigits_le most u hm h
  have h2 := (decDigits_facts u).2.2.2.2
  unfold isNum
  rw [decDigits_length, all_dec]
  have e1 : (decDigits u).isEmpty = false := by rw [List.isEmpty_eq_false_iff]; exact dec_ne u
  rw [e1, decide_eq_true h1]
  by_cases h0 : u = 0
  · subst h0
    rw [nDigits_small (by decide)]; rfl
  · rw [decide_eq_false (h2 h0)]; simp

/- a text without a sign, and cut at its first one -/
def pre (c : UInt8) (l : List UInt8) : List UInt8 := l.takeWhile (· != c)
def post (c : UInt8) (l : List UInt8) : List UInt8 := (l.dropWhile (· != c)).drop 1
def has (c : UInt8) (l : List UInt8) : Bool := l.any (· == c)

theorem indexByte_eq (c : UInt8) : ∀ l : List UInt8, indexByte l c = if has c l then ((pre c l).length : Int) else -1
  | [] => rfl
  | b :: l => by
    have ih := indexByte_eq c l
    unfold indexByte
    by_cases h : b = c
    · subst h; simp [has, pre]
    · have hb : (b == c) = false := by simpa using h
      have hb' : (b != c) = true := by simp [bne, hb]
      rw [hb, if_neg (by decide), ih]
      by_cases hh : has c l = true
      · have hh' : has c (b :: l) = true := by unfold has at *; simp only [List.any_cons, hb, Bool.false_or]; exact hh
        rw [hh, hh']
        simp only [if_true]
        have hp : pre c (b :: l) = b :: pre c l := by unfold pre; rw [List.takeWhile_cons, hb']; rfl
        rw [hp]
        have hne : (((pre c l).length : Int) == -1) = false := by
          rw [beq_eq_false_iff_ne]; omega
        rw [hne]
        simp
      · have hh2 : has c l = false := by simpa using hh
        have hh' : has c (b :: l) = false := by unfold has at *; simp only [List.any_cons, hb, Bool.false_or]; exact hh2
        rw [hh2, hh']
        simp
theorem take_pre (c : UInt8) : ∀ l : List UInt8, l.take (pre c l).length = pre c l
  | [] => rfl
  | b :: l => by
    unfold pre
    rw [List.takeWhile_cons]
    split
    · have := take_pre c l; unfold pre at this; simp [this]
    · rfl
theorem drop_pre (c : UInt8) : ∀ l : List UInt8, l.drop ((pre c l).length + 1) = post c l
  | [] => rfl
  | b :: l => by
    unfold pre post
    rw [List.takeWhile_cons, List.dropWhile_cons]
    split
    · have := drop_pre c l; unfold pre post at this; simpa using this
    · simp
theorem pre_length_le (c : UInt8) (l : List UInt8) : (pre c l).length ≤ l.length := by
  have := congrArg List.length (take_pre c l)
  rw [List.length_take] at this
  omega
theorem pre_length_lt (c : UInt8) : ∀ l : List UInt8, has c l = true → (pre c l).length < l.length
  | [], h => by cases h
  | b :: l, h => by
    unfold pre
    rw [List.takeWhile_cons]
    split
    · rename_i hb
      have hb' : (b == c) = false := by simpa [bne] using hb
      have hh : has c l = true := by unfold has at *; simpa only [List.any_cons, hb', Bool.false_or] using h
      have := pre_length_lt c l hh
      unfold pre at this
      simp; omega
    · simp
/-- Of a text whose first part lacks the sign. -/
theorem pre_append (c : UInt8) : ∀ (a b : List UInt8), has c a = false → pre c (a ++ c :: b) = a ∧ post c (a ++ c :: b) = b ∧ has c (a ++ c :: b) = true
  | [], b, _ => by simp [pre, post, has]
  | x :: a, b, h => by
    have hx : (x == c) = false := by unfold has at h; simp only [List.any_cons, Bool.or_eq_false_iff] at h; exact h.1
    have ha : has c a = false := by unfold has at *; simp only [List.any_cons, Bool.or_eq_false_iff] at h; exact h.2
    obtain ⟨h1, h2, h3⟩ := pre_append c a b ha
    have hx' : (x != c) = true := by simp [bne, hx]
    unfold pre post has at *
    refine ⟨?_, ?_, ?_⟩
    · rw [List.cons_append, List.takeWhile_cons, hx']; simp [h1]
    · rw [List.cons_append, List.dropWhile_cons, hx']; exact h2
    · rw [List.cons_append, List.any_cons, h3]; simp
theorem has_dig {l : List UInt8} (h : l.all dig = true) : has 99 l = false := by
  unfold has
  rw [List.any_eq_false]
  intro x hx he
  have hd := List.all_eq_true.1 h x hx
  have : x = 99 := by simpa using he
  subst this
  exact absurd hd (by decide)
theorem has_dec (u : Nat) : has 99 (decDigits u) = false := has_dig (all_dec u)

/- pieces -/
def maxQ : Int := 1099511627776
def partsOf (l : List UInt8) : Option (Nat × Nat) :=
  if has 99 l then
    if isNum 13 (pre 99 l) && decide (0 < numVal (pre 99 l)) then
      if (post 99 l).isEmpty then some (numVal (pre 99 l), 0)
      else if isNum 13 (post 99 l) && decide (0 < numVal (post 99 l)) then some (numVal (pre 99 l), numVal (post 99 l)) else none
    else none
  else if isNum 13 l then some (0, numVal l) else none
def pw (p : Int) : Bool := decide (1 ≤ p) && decide (p ≤ 1000)
/-- What goods.Read answers, with the error's number. -/
def readOf (l : List UInt8) (pack : Int) : Int × Nat :=
  if pw pack then
    match partsOf l with
    | none => (0, 1)
    | some (c, p) => if maxQ < (c : Int) * pack + p then (0, 2) else ((c : Int) * pack + p, 0)
  else (0, 2)
/-- What goods.Text answers. -/
def textOf (n pack : Int) : List UInt8 :=
  if 0 ≤ n ∧ n ≤ maxQ ∧ pw pack then
    if pack = 1 ∨ n < pack then decDigits n.toNat
    else decDigits (n / pack).toNat ++ 99 :: (if n % pack = 0 then [] else decDigits (n % pack).toNat)
  else []

theorem parts_dec (u : Nat) (h : u < 10 ^ 13) : partsOf (decDigits u) = some (0, u) := by
  unfold partsOf
  rw [has_dec, if_neg (by decide), isNum_dec 13 u (by decide) h, numVal_dec]; rfl
theorem parts_case (u v : Nat) (h : u < 10 ^ 13) (h0 : 0 < u) (hv : v < 10 ^ 13) : partsOf (decDigits u ++ 99 :: (if v = 0 then [] else decDigits v)) = some (u, v) := by
  obtain ⟨h1, h2, h3⟩ := pre_append 99 (decDigits u) (if v = 0 then [] else decDigits v) (has_dec u)
  unfold partsOf
  rw [h1, h2, h3, if_pos rfl, isNum_dec 13 u (by decide) h, numVal_dec, decide_eq_true h0]
  by_cases hv0 : v = 0
  · subst hv0; rfl
  · rw [if_neg hv0]
    have e1 : (decDigits v).isEmpty = false := by rw [List.isEmpty_eq_false_iff]; exact dec_ne v
    rw [e1, isNum_dec 13 v (by decide) hv, numVal_dec, decide_eq_true (by omega : 0 < v)]; rfl

theorem read_text (n pack : Int) (h0 : 0 ≤ n) (h1 : n ≤ maxQ) (hp : pw pack = true) : readOf (textOf n pack) pack = (n, 0) := by
  have hp' : 1 ≤ pack ∧ pack ≤ 1000 := by unfold pw at hp; simpa using hp
  unfold maxQ at h1
  unfold readOf textOf
  rw [if_pos hp, if_pos ⟨h0, by unfold maxQ; exact h1, hp⟩]
  have hq := Int.mul_ediv_add_emod n pack
  have hr0 := Int.emod_nonneg n (show pack ≠ 0 by omega)
  have hr1 := Int.emod_lt_of_pos n (show 0 < pack by omega)
  have hd : n / pack ≤ n := Int.ediv_le_self pack h0
  by_cases hc : pack = 1 ∨ n < pack
  · rw [if_pos hc, parts_dec n.toNat (by omega)]
    have e : ((0 : Nat) : Int) * pack + (n.toNat : Int) = n := by simp; omega
    simp only [e]
    rw [if_neg (by unfold maxQ; omega)]
  · rw [if_neg hc]
    have hpos : 0 < n / pack := by
      rcases Int.lt_or_le 0 (n / pack) with h | h
      · exact h
      · have : pack * (n / pack) ≤ 0 := Int.mul_nonpos_of_nonneg_of_nonpos (by omega) h
        omega
    have hz : (n % pack = 0) = ((n % pack).toNat = 0) := by apply propext; omega
    simp only [hz]
    rw [parts_case (n / pack).toNat (n % pack).toNat (by omega) (by omega) (by omega)]
    have e : (((n / pack).toNat : Nat) : Int) * pack + ((n % pack).toNat : Int) = n := by
      rw [Int.toNat_of_nonneg (by omega), Int.toNat_of_nonneg hr0, Int.mul_comm]; omega
    simp only [e]
    rw [if_neg (by unfold maxQ; omega)]
theorem text_inj (n m pack : Int) (h0 : 0 ≤ n) (h1 : n ≤ maxQ) (g0 : 0 ≤ m) (g1 : m ≤ maxQ) (hp : pw pack = true) (h : textOf n pack = textOf m pack) : n = m := by
  have e1 := read_text n pack h0 h1 hp
  have e2 := read_text m pack g0 g1 hp
  rw [h, e2] at e1
  exact (congrArg Prod.fst e1).symm
end Go.Proofs.YtgdhfipbbijngaaGreatDoor
namespace Go.Proofs.YtgdhfipbbijngaaGreatDoor
open Go.RowKit Go.Lib

theorem take_snoc (s : ByteArray) (k : Nat) (h : k < s.size) : s.data.toList.take (k + 1) = s.data.toList.take k ++ [s[k]] := by
  rw [List.take_succ_eq_append_getElem (by simpa using h)]; rfl

theorem isEmpty_of (s : ByteArray) (h : 1 ≤ s.size) : s.toList.isEmpty = false := by
  rw [← decide_eq_emptyBytes]
  apply decide_eq_false
  rintro rfl
  exact absurd h (by decide)
theorem isNum_all {most : Nat} {l : List UInt8} (h0 : 1 ≤ l.length) (h1 : l.length ≤ most) (h2 : 1 < l.length → (l.headD 0).toNat ≠ 48) : isNum most l = l.all dig := by
  unfold isNum
  have e1 : l.isEmpty = false := by rw [List.isEmpty_eq_false_iff]; rintro rfl; exact absurd h0 (by decide)
  rw [e1, decide_eq_true h1]
  by_cases h : 1 < l.length
  · rw [decide_eq_true h, decide_eq_false (h2 h)]; simp
  · rw [decide_eq_false h]; simp
theorem all_take_snoc (s : ByteArray) (k : Nat) (h : k < s.size) : (s.data.toList.take (k + 1)).all dig = ((s.data.toList.take k).all dig && dig s[k]) := by
  rw [take_snoc s k h, List.all_append]; simp
theorem head_eq (s : ByteArray) (h : 0 < s.size) : s.data.toList.headD 0 = s[0] := by
  have e : s.data.toList = s[0] :: s.data.toList.drop 1 := by
    have := List.take_append_drop 1 s.data.toList
    rw [take_snoc s 0 h] at this
    simpa using this.symm
  rw [e]; rfl
theorem size_len (s : ByteArray) : s.data.toList.length = s.size := (Lib.size_eq s).symm

theorem val_bound (s : ByteArray) (k most : Nat) (h : k < s.size) (h1 : s.size ≤ most) (hm : most ≤ 18) (ha : (s.data.toList.take k).all dig = true) : numVal (s.data.toList.take k) ≤ 99999999999999999 := by
  have hl := numVal_lt _ ha
  have hk : (s.data.toList.take k).length ≤ 17 := Nat.le_trans (List.length_take_le _ _) (by omega)
  have hp : 10 ^ (s.data.toList.take k).length ≤ 10 ^ 17 := Nat.pow_le_pow_right (by decide) hk
  have : (10 : Nat) ^ 17 = 100000000000000000 := by decide
  omega
theorem all_false_of (s : ByteArray) (k : Nat) (h : k < s.size) (hd : dig s[k] = false) : s.data.toList.all dig = false := by
  rw [List.all_eq_false]
  refine ⟨s[k], ?_, by rw [hd]; decide⟩
  have := List.getElem_mem (l := s.data.toList) (n := k) (by rw [size_len]; exact h)
  exact this
theorem num_bad (s : ByteArray) (k most : Nat) (w : World) (H : isNum most s.data.toList = s.data.toList.all dig) (h : k < s.size) (hd : dig s[k] = false) :
    Ending.returned (.tuple #[.int .i64 0, .bool false]) = Ending.returned (.tuple #[.int .i64 (numR most s.data.toList), .bool (isNum most s.data.toList)]) ∧ w = w := by
  have e : isNum most s.data.toList = false := by rw [H]; exact all_false_of s k h hd
  rw [numR_no e, e]; exact ⟨rfl, rfl⟩
theorem num_good (s : ByteArray) (k most : Nat) (w : World) (H : isNum most s.data.toList = s.data.toList.all dig) (h : s.size ≤ k) (ha : (s.data.toList.take k).all dig = true) :
    Ending.returned (.tuple #[.int .i64 (numVal (s.data.toList.take k)), .bool true]) = Ending.returned (.tuple #[.int .i64 (numR most s.data.toList), .bool (isNum most s.data.toList)]) ∧ w = w := by
  rw [List.take_of_length_le (by rw [size_len]; exact h)] at ha ⊢
  have e : isNum most s.data.toList = true := by rw [H]; exact ha
  rw [numR_yes e, e]; exact ⟨rfl, rfl⟩
theorem num_step (s : ByteArray) (k N : Nat) (h : k < s.size) (hN : numVal (s.data.toList.take k) = N) (hd : 48 ≤ s[k].toNat) :
    Value.int .i64 ((N : Int) * 10 + ((s[k].toNat : Int) - 48)) = .int .i64 (numVal (s.data.toList.take (k + 1))) := by
  rw [take_snoc s k h, numVal_snoc, hN]
  congr 1
  omega

set_option maxHeartbeats 1000000 in
/-- number.Read behind its first test. -/
theorem numRead_all (s : ByteArray) (most : Nat) (w : World) (hm : most ≤ 18) (h0 : 1 ≤ s.size) (h1 : s.size ≤ most) (h2 : 1 < s.size → ((s.data.toList.headD 0).toNat : Int) ≠ 48) :
    Calls Tryz.prog 64 #[.string s, .int .i64 most] w fun e w' => e = .returned (.tuple #[.int .i64 (numR most s.data.toList), .bool (isNum most s.data.toList)]) ∧ w' = w := by
  have H : Hid (isNum most s.data.toList = s.data.toList.all dig) := isNum_all (by rw [size_len]; exact h0) (by rw [size_len]; exact h1) (fun h => by rw [size_len] at h; have := h2 h; omega)
  have he := isEmpty_of s h0
  have he' : ¬ s.toList = [] := by rw [← List.isEmpty_iff, he]; decide
  rw [head_eq s h0] at h2
  by_cases hs : 1 < s.size
  · have h3 : ((s[0].toNat : Int) == 48) = false := by simpa using h2 hs
    clear h2
    go_enter Tryz.func64, Tryz.ntmps64
    go_wp2
    go_loop [6, 29] (fun n i => ∃ k : Nat, k ≤ s.size ∧ i = .int .i64 k ∧ n = .int .i64 (numVal (s.data.toList.take k)) ∧ (s.data.toList.take k).all dig = true) (fun _ i => s.size - (RowKit.intOf i).toNat)
    case atStart => exact ⟨0, Nat.zero_le _, rfl, rfl, rfl⟩
    case round =>
      obtain ⟨k, hk, rfl, rfl, hall⟩ := hrel
      by_cases hlt : k < s.size
      · have hv := val_bound s k most hlt h1 hm hall
        have HS : Hid (s.data.toList.take (k + 1) = s.data.toList.take k ++ [s[k]]) := take_snoc s k hlt
        have HA : Hid ((s.data.toList.take k).all dig = true) := hall
        clear hall
        generalize hN : (numVal (s.data.toList.take k)) = N at hv
        have HN : Hid (numVal (s.data.toList.take k) = N) := hN
        clear hN
        have hb : 0 ≤ (s[k].toNat : Int) ∧ (s[k].toNat : Int) ≤ 255 := by have := s[k].toNat_lt; omega
        by_cases d1 : (s[k].toNat : Int) < 48
        · go_wp2
          go_ret2
          exact num_bad s k most w H.out hlt (by unfold dig; simp; omega)
        · by_cases d2 : 57 < (s[k].toNat : Int)
          · go_wp2
            go_ret2
            exact num_bad s k most w H.out hlt (by unfold dig; simp; omega)
          · go_wp2
            go_round
            case rel => exact ⟨k + 1, by omega, by go_num, num_step s k N hlt HN.out (by omega), by rw [HS.out, List.all_append, HA.out]; simp [dig]; omega⟩
            case measure => simp [RowKit.intOf]; omega
      · go_wp2
        go_ret2
        exact num_good s k most w H.out (by omega) hall
  · clear h2
    go_enter Tryz.func64, Tryz.ntmps64
    go_wp2
    go_loop [6, 29] (fun n i => ∃ k : Nat, k ≤ s.size ∧ i = .int .i64 k ∧ n = .int .i64 (numVal (s.data.toList.take k)) ∧ (s.data.toList.take k).all dig = true) (fun _ i => s.size - (RowKit.intOf i).toNat)
    case atStart => exact ⟨0, Nat.zero_le _, rfl, rfl, rfl⟩
    case round =>
      obtain ⟨k, hk, rfl, rfl, hall⟩ := hrel
      by_cases hlt : k < s.size
      · have hv := val_bound s k most hlt h1 hm hall
        have HS : Hid (s.data.toList.take (k + 1) = s.data.toList.take k ++ [s[k]]) := take_snoc s k hlt
        have HA : Hid ((s.data.toList.take k).all dig = true) := hall
        clear hall
        generalize hN : (numVal (s.data.toList.take k)) = N at hv
        have HN : Hid (numVal (s.data.toList.take k) = N) := hN
        clear hN
        have hb : 0 ≤ (s[k].toNat : Int) ∧ (s[k].toNat : Int) ≤ 255 := by have := s[k].toNat_lt; omega
        by_cases d1 : (s[k].toNat : Int) < 48
        · go_wp2
          go_ret2
          exact num_bad s k most w H.out hlt (by unfold dig; simp; omega)
        · by_cases d2 : 57 < (s[k].toNat : Int)
          · go_wp2
            go_ret2
            exact num_bad s k most w H.out hlt (by unfold dig; simp; omega)
          · go_wp2
            go_round
            case rel => exact ⟨k + 1, by omega, by go_num, num_step s k N hlt HN.out (by omega), by rw [HS.out, List.all_append, HA.out]; simp [dig]; omega⟩
            case measure => simp [RowKit.intOf]; omega
      · go_wp2
        go_ret2
        exact num_good s k most w H.out (by omega) hall

theorem isNum_nil (most : Nat) : isNum most [] = false := rfl
theorem isNum_long {most : Nat} {l : List UInt8} (h : most < l.length) : isNum most l = false := by
  unfold isNum
  rw [decide_eq_false (by omega)]; simp
theorem isNum_zero {most : Nat} {l : List UInt8} (h : 1 < l.length) (h0 : (l.headD 0).toNat = 48) : isNum most l = false := by
  unfold isNum
  rw [decide_eq_true h, decide_eq_true h0]; simp
theorem num_none (most : Nat) (l : List UInt8) (w : World) (h : isNum most l = false) :
    Ending.returned (.tuple #[.int .i64 0, .bool false]) = Ending.returned (.tuple #[.int .i64 (numR most l), .bool (isNum most l)]) ∧ w = w := by
  rw [numR_no h, h]; exact ⟨rfl, rfl⟩

set_option maxHeartbeats 1000000 in
/-- number.Read. -/
theorem numRead (s : ByteArray) (most : Nat) (w : World) (hm : most ≤ 18) (hz : s.size ≤ maxLen) :
    Calls Tryz.prog 64 #[.string s, .int .i64 most] w fun e w' => e = .returned (.tuple #[.int .i64 (numR most s.data.toList), .bool (isNum most s.data.toList)]) ∧ w' = w := by
  unfold maxLen at hz
  by_cases h0 : 1 ≤ s.size
  · have he := isEmpty_of s h0
    have he' : ¬ s.toList = [] := by rw [← List.isEmpty_iff, he]; decide
    by_cases h1 : s.size ≤ most
    · by_cases h2 : 1 < s.size ∧ ((s.data.toList.headD 0).toNat : Int) = 48
      · obtain ⟨h2, h3⟩ := h2
        have HN : Hid (isNum most s.data.toList = false) := isNum_zero (by rw [size_len]; exact h2) (by omega)
        rw [head_eq s h0] at h3
        have h4 : ((s[0].toNat : Int) == 48) = true := by simpa using h3
        clear h3
        go_enter Tryz.func64, Tryz.ntmps64
        go_wp2
        go_ret2
        exact num_none most _ w HN.out
      · exact numRead_all s most w hm h0 h1 (fun h h' => h2 ⟨h, h'⟩)
    · have HN : Hid (isNum most s.data.toList = false) := isNum_long (by rw [size_len]; omega)
      go_enter Tryz.func64, Tryz.ntmps64
      go_wp2
      go_ret2
      exact num_none most _ w HN.out
  · have hs : s.data.toList = [] := List.eq_nil_of_length_eq_zero (by rw [size_len]; omega)
    have HN : Hid (isNum most s.data.toList = false) := by rw [hs]; exact isNum_nil most
    have he : s = ByteArray.empty := by cases s; simp at hs; subst hs; rfl
    clear hs
    subst he
    go_enter Tryz.func64, Tryz.ntmps64
    go_wp2
    go_ret2
    exact num_none most _ w HN.out

end Go.Proofs.YtgdhfipbbijngaaGreatDoor
namespace Go.Proofs.YtgdhfipbbijngaaGreatDoor
open Go.RowKit Go.Lib Go.Sort
theorem isEmpty_nil {s : ByteArray} (h : s.data.toList = []) : s = ByteArray.empty := by
  cases s; simp at h; subst h; rfl
theorem size_pos_of {s : ByteArray} (h : s.data.toList ≠ []) : 1 ≤ s.size := by
  rw [← size_len]; exact List.length_pos_iff.2 h

theorem bytes_toList (l : List UInt8) : (⟨l.toArray⟩ : ByteArray).data.toList = l := by simp
theorem pre_size (c : UInt8) (s : ByteArray) (hz : s.size ≤ maxLen) : (⟨(pre c s.data.toList).toArray⟩ : ByteArray).size ≤ maxLen := by
  rw [← size_len, bytes_toList]
  have := pre_length_le c s.data.toList
  rw [size_len] at this
  omega
theorem post_size (c : UInt8) (s : ByteArray) (hz : s.size ≤ maxLen) : (⟨(post c s.data.toList).toArray⟩ : ByteArray).size ≤ maxLen := by
  rw [← size_len, bytes_toList, ← drop_pre, List.length_drop, size_len]
  omega

/-- strconv's table of powers is laid. -/
def Pow (w : World) : Prop := TabIs Tryz.prog w "internal/strconv.uint64pow10" .u64 pow10Tab
theorem Pow.below {w w' : World} (h : Pow w) (hb : Below w.heap.size w w') : Pow w' := by
  unfold Pow TabIs World.var? at *
  cases hg : Tryz.prog.globalNamed "internal/strconv.uint64pow10" with
  | none => simp [hg] at h
  | some g =>
    simp only [hg, Option.bind_some] at h ⊢
    have hlt : g < w.heap.size := by
      rcases Nat.lt_or_ge g w.heap.size with h' | h'
      · exact h'
      · simp [Array.getElem?_eq_none h'] at h
    rw [hb.block g hlt]
    exact h
theorem below_grow (w : World) (k : Nat) (os : Array Obj) : Below w.heap.size w (grow (w.drewN k) os) :=
  ⟨rfl, rfl, rfl, by show w.heap.size ≤ (w.heap ++ os).size; simp, fun j hj => by show (w.heap ++ os)[j]? = _; rw [Array.getElem?_append_left hj]⟩

theorem itoa_any (n : Int) (h0 : 0 ≤ n) (h1 : n ≤ 9223372036854775807) (w : World) (hp : Pow w) :
    Calls Tryz.prog 28 #[.int .i64 n] w fun e w' => e = .returned (.string ⟨(decDigits n.toNat).toArray⟩) ∧ Below w.heap.size w w' := by
  refine (Tryz.strconv_Itoa n (by omega) h1 w hp).mono ?_
  rintro e w' ⟨rfl, k, os, rfl⟩
  refine ⟨?_, below_grow w k os⟩
  unfold itoa
  rw [if_neg (by omega)]

theorem dec_short (u : Nat) (h : u < 10 ^ 13) : (decDigits u).length ≤ 13 := by rw [decDigits_length]; exact nDigits_le 13 u (by decide) h

theorem str_append (a b : List UInt8) : (⟨a.toArray⟩ : ByteArray) ++ ⟨b.toArray⟩ = ⟨(a ++ b).toArray⟩ := by
  apply ByteArray.ext
  simp
end Go.Proofs.YtgdhfipbbijngaaGreatDoor
namespace Go.Proofs.YtgdhfipbbijngaaGreatDoor
open Go.RowKit Go.Lib Go.Sort

set_option maxRecDepth 20000 in
theorem refByte0 (n : Int) (h0 : 0 ≤ n) (h1 : n ≤ 255) (w : World) :
    Calls Tryz.prog 61 #[.int .i64 n] w fun e w' => e = .returned (.string ⟨#[UInt8.ofNat n.toNat]⟩) ∧ Below w.heap.size w w' := by
  have hc : (convert 127 9 (.slice (some ⟨w.heap.size, 0, none⟩) 1 1)).run Tryz.prog (w.alloc (.cells #[.int .u8 n] 5)) = .ok (.string ⟨#[UInt8.ofNat n.toNat]⟩) (w.alloc (.cells #[.int .u8 n] 5)) :=
    run_convert_bytes_arg (w.alloc (.cells #[.int .u8 n] 5)) 127 5 Tryz.underlying127 Tryz.underlying5 w.heap.size 0 1 1 [n] rfl (fun i hi => by
      obtain rfl : i = 0 := by omega
      simp) 9 Tryz.underlying9
  go_enter Tryz.func61, Tryz.ntmps61
  go_wp2
  go_ret
  exact ⟨rfl, ((Below.refl _ _).alloc (Nat.le_refl _) _)⟩

theorem refByte (n : Int) (k : Nat) (hk : n = k) (h : k ≤ 255) (w : World) :
    Calls Tryz.prog 61 #[.int .i64 n] w fun e w' => e = .returned (.string ⟨#[UInt8.ofNat k]⟩) ∧ Below w.heap.size w w' := by
  subst hk
  exact refByte0 k (by omega) (by omega) w

theorem refBelow : ∀ (m : Nat), m ≤ 9223372036854775807 → ∀ (n : Int), n = -(m : Int) → ∀ (w : World),
    Calls Tryz.prog 46 #[.int .i64 n] w fun e w' => e = .returned (.string ⟨(decDigits m).toArray⟩) ∧ Below w.heap.size w w' := by
  intro m
  induction m using Nat.strongRecOn with
  | _ m ih =>
    intro hm n hn w
    subst hn
    by_cases h : m < 10
    · rw [decDigits_one h]
      go_enter Tryz.func46, Tryz.ntmps46
      go_wp2_with (go_at_call 61; refine (refByte _ (48 + m) (by omega) (by omega) _).mono ?_; rintro e w1 ⟨rfl, hb⟩)
      go_ret
      exact ⟨by simp, hb⟩
    · have hi := ih (m / 10) (by omega) (by omega)
      have HI : Hid (∀ (n : Int), n = -((m / 10 : Nat) : Int) → ∀ (w : World), Calls Tryz.prog 46 #[.int .i64 n] w fun e w' => e = .returned (.string ⟨(decDigits (m / 10)).toArray⟩) ∧ Below w.heap.size w w') := hi
      clear ih hi
      have hl := decDigits_length (m / 10)
      have hl2 := nDigits_le 19 (m / 10) (by decide) (by omega)
      have hl3 : (decDigits (m / 10)).length ≤ 19 := by omega
      clear hl hl2
      rw [decDigits, dif_neg h, ← str_append]
      go_enter Tryz.func46, Tryz.ntmps46
      go_wp2_with (first | (go_at_call 46; refine (HI.out _ (by omega) _).mono ?_; rintro e w1 ⟨rfl, hb⟩) | (go_at_call 61; refine (refByte _ (48 + m % 10) (by omega) (by omega) _).mono ?_; rintro e w2 ⟨rfl, hb2⟩))
      go_ret
      exact ⟨by simp, hb.trans (hb2.mono hb.size)⟩

theorem refDecimal (n : Int) (h0 : 0 ≤ n) (h1 : n ≤ 9223372036854775807) (w : World) :
    Calls Tryz.prog 31 #[.int .i64 n] w fun e w' => e = .returned (.string ⟨(decDigits n.toNat).toArray⟩) ∧ Below w.heap.size w w' := by
  go_enter Tryz.func31, Tryz.ntmps31
  go_wp2_with (go_at_call 46; refine (refBelow n.toNat (by omega) _ (by omega) _).mono ?_; rintro e w1 ⟨rfl, hb⟩)
  go_ret
  exact ⟨rfl, hb⟩

/-- The number, or -1. -/
def numM (most : Nat) (l : List UInt8) : Int := if isNum most l then numVal l else -1
theorem numM_yes {most : Nat} {l : List UInt8} (h : isNum most l = true) : numM most l = numVal l := by unfold numM; rw [if_pos h]
theorem numM_no {most : Nat} {l : List UInt8} (h : isNum most l = false) : numM most l = -1 := by unfold numM; rw [if_neg (by rw [h]; decide)]
theorem ref_bad (s : ByteArray) (k most : Nat) (w : World) (H : isNum most s.data.toList = s.data.toList.all dig) (h : k < s.size) (hd : dig s[k] = false) :
    Ending.returned (.int .i64 (-1)) = Ending.returned (.int .i64 (numM most s.data.toList)) ∧ w = w := by
  have e : isNum most s.data.toList = false := by rw [H]; exact all_false_of s k h hd
  rw [numM_no e]; exact ⟨rfl, rfl⟩
theorem ref_good (s : ByteArray) (k most : Nat) (w : World) (H : isNum most s.data.toList = s.data.toList.all dig) (h : s.size ≤ k) (ha : (s.data.toList.take k).all dig = true) :
    Ending.returned (.int .i64 (numVal (s.data.toList.take k))) = Ending.returned (.int .i64 (numM most s.data.toList)) ∧ w = w := by
  rw [List.take_of_length_le (by rw [size_len]; exact h)] at ha ⊢
  have e : isNum most s.data.toList = true := by rw [H]; exact ha
  rw [numM_yes e]; exact ⟨rfl, rfl⟩
theorem ref_step (s : ByteArray) (k N : Nat) (h : k < s.size) (hN : numVal (s.data.toList.take k) = N) (hd : 48 ≤ s[k].toNat) :
    Value.int .i64 (10 * (N : Int) + ((s[k].toNat : Int) - 48)) = .int .i64 (numVal (s.data.toList.take (k + 1))) := by
  rw [take_snoc s k h, numVal_snoc, hN]
  congr 1
  omega
theorem ref_none (most : Nat) (l : List UInt8) (w : World) (h : isNum most l = false) : Ending.returned (.int .i64 (-1)) = Ending.returned (.int .i64 (numM most l)) ∧ w = w := by
  rw [numM_no h]; exact ⟨rfl, rfl⟩

set_option maxHeartbeats 1000000 in
theorem numberOf_all (s : ByteArray) (most : Nat) (w : World) (hm : most ≤ 18) (h0 : 1 ≤ s.size) (h1 : s.size ≤ most) (h2 : 1 < s.size → ((s.data.toList.headD 0).toNat : Int) ≠ 48) :
    Calls Tryz.prog 16 #[.string s, .int .i64 most] w fun e w' => e = .returned (.int .i64 (numM most s.data.toList)) ∧ w' = w := by
  have H : Hid (isNum most s.data.toList = s.data.toList.all dig) := isNum_all (by rw [size_len]; exact h0) (by rw [size_len]; exact h1) (fun h => by rw [size_len] at h; have := h2 h; omega)
  rw [head_eq s h0] at h2
  by_cases hs : 1 < s.size
  · have h3 : ((s[0].toNat : Int) == 48) = false := by simpa using h2 hs
    clear h2
    go_enter Tryz.func16, Tryz.ntmps16
    go_wp2
    go_loop [5, 6] (fun n i => ∃ k : Nat, k ≤ s.size ∧ i = .int .i64 k ∧ n = .int .i64 (numVal (s.data.toList.take k)) ∧ (s.data.toList.take k).all dig = true) (fun _ i => s.size - (RowKit.intOf i).toNat)
    case atStart => exact ⟨0, Nat.zero_le _, rfl, rfl, rfl⟩
    case round =>
      obtain ⟨k, hk, rfl, rfl, hall⟩ := hrel
      by_cases hlt : k < s.size
      · have hv := val_bound s k most hlt h1 hm hall
        have HS : Hid (s.data.toList.take (k + 1) = s.data.toList.take k ++ [s[k]]) := take_snoc s k hlt
        have HA : Hid ((s.data.toList.take k).all dig = true) := hall
        clear hall
        generalize hN : (numVal (s.data.toList.take k)) = N at hv
        have HN : Hid (numVal (s.data.toList.take k) = N) := hN
        clear hN
        have hb : 0 ≤ (s[k].toNat : Int) ∧ (s[k].toNat : Int) ≤ 255 := by have := s[k].toNat_lt; omega
        by_cases d1 : (s[k].toNat : Int) < 48
        · go_wp2
          go_ret
          exact ref_bad s k most w H.out hlt (by unfold dig; simp; omega)
        · by_cases d2 : 57 < (s[k].toNat : Int)
          · go_wp2
            go_ret
            exact ref_bad s k most w H.out hlt (by unfold dig; simp; omega)
          · go_wp2
            go_round
            case rel => exact ⟨k + 1, by omega, by go_num, ref_step s k N hlt HN.out (by omega), by rw [HS.out, List.all_append, HA.out]; simp [dig]; omega⟩
            case measure => simp [RowKit.intOf]; omega
      · go_wp2
        go_ret
        exact ref_good s k most w H.out (by omega) hall
  · clear h2
    go_enter Tryz.func16, Tryz.ntmps16
    go_wp2
    go_loop [5, 6] (fun n i => ∃ k : Nat, k ≤ s.size ∧ i = .int .i64 k ∧ n = .int .i64 (numVal (s.data.toList.take k)) ∧ (s.data.toList.take k).all dig = true) (fun _ i => s.size - (RowKit.intOf i).toNat)
    case atStart => exact ⟨0, Nat.zero_le _, rfl, rfl, rfl⟩
    case round =>
      obtain ⟨k, hk, rfl, rfl, hall⟩ := hrel
      by_cases hlt : k < s.size
      · have hv := val_bound s k most hlt h1 hm hall
        have HS : Hid (s.data.toList.take (k + 1) = s.data.toList.take k ++ [s[k]]) := take_snoc s k hlt
        have HA : Hid ((s.data.toList.take k).all dig = true) := hall
        clear hall
        generalize hN : (numVal (s.data.toList.take k)) = N at hv
        have HN : Hid (numVal (s.data.toList.take k) = N) := hN
        clear hN
        have hb : 0 ≤ (s[k].toNat : Int) ∧ (s[k].toNat : Int) ≤ 255 := by have := s[k].toNat_lt; omega
        by_cases d1 : (s[k].toNat : Int) < 48
        · go_wp2
          go_ret
          exact ref_bad s k most w H.out hlt (by unfold dig; simp; omega)
        · by_cases d2 : 57 < (s[k].toNat : Int)
          · go_wp2
            go_ret
            exact ref_bad s k most w H.out hlt (by unfold dig; simp; omega)
          · go_wp2
            go_round
            case rel => exact ⟨k + 1, by omega, by go_num, ref_step s k N hlt HN.out (by omega), by rw [HS.out, List.all_append, HA.out]; simp [dig]; omega⟩
            case measure => simp [RowKit.intOf]; omega
      · go_wp2
        go_ret
        exact ref_good s k most w H.out (by omega) hall

set_option maxHeartbeats 1000000 in
/-- NumberOf. -/
theorem numberOf (s : ByteArray) (most : Nat) (w : World) (hm : most ≤ 18) (hz : s.size ≤ maxLen) :
    Calls Tryz.prog 16 #[.string s, .int .i64 most] w fun e w' => e = .returned (.int .i64 (numM most s.data.toList)) ∧ w' = w := by
  unfold maxLen at hz
  by_cases h0 : 1 ≤ s.size
  · by_cases h1 : s.size ≤ most
    · by_cases h2 : 1 < s.size ∧ ((s.data.toList.headD 0).toNat : Int) = 48
      · obtain ⟨h2, h3⟩ := h2
        have HN : Hid (isNum most s.data.toList = false) := isNum_zero (by rw [size_len]; exact h2) (by omega)
        rw [head_eq s h0] at h3
        have h4 : ((s[0].toNat : Int) == 48) = true := by simpa using h3
        clear h3
        go_enter Tryz.func16, Tryz.ntmps16
        go_wp2
        go_ret
        exact ref_none most _ w HN.out
      · exact numberOf_all s most w hm h0 h1 (fun h h' => h2 ⟨h, h'⟩)
    · have HN : Hid (isNum most s.data.toList = false) := isNum_long (by rw [size_len]; omega)
      go_enter Tryz.func16, Tryz.ntmps16
      go_wp2
      go_ret
      exact ref_none most _ w HN.out
  · have hs : s.data.toList = [] := List.eq_nil_of_length_eq_zero (by rw [size_len]; omega)
    have HN : Hid (isNum most s.data.toList = false) := by rw [hs]; exact isNum_nil most
    have he : s = ByteArray.empty := isEmpty_nil hs
    clear hs
    subst he
    go_enter Tryz.func16, Tryz.ntmps16
    go_wp2
    go_ret
    exact ref_none most _ w HN.out
end Go.Proofs.YtgdhfipbbijngaaGreatDoor
namespace Go.Proofs.YtgdhfipbbijngaaGreatDoor
open Go.RowKit Go.Lib Go.Sort

def nameB (c : UInt8) : Bool := (decide (97 ≤ c.toNat) && decide (c.toNat ≤ 122)) || (decide (48 ≤ c.toNat) && decide (c.toNat ≤ 57))
def isName (l : List UInt8) : Bool := l.all nameB && (decide (1 ≤ l.length) && decide (l.length ≤ 8))

theorem name_false_of (s : ByteArray) (k : Nat) (h : k < s.size) (hd : nameB s[k] = false) : s.data.toList.all nameB = false := by
  rw [List.all_eq_false]
  refine ⟨s[k], ?_, by rw [hd]; decide⟩
  have := List.getElem_mem (l := s.data.toList) (n := k) (by rw [size_len]; exact h)
  exact this
theorem name_bad (s : ByteArray) (k : Nat) (w : World) (h : k < s.size) (hd : nameB s[k] = false) : Ending.returned (.bool false) = Ending.returned (.bool (isName s.data.toList)) ∧ w = w := by
  unfold isName
  rw [name_false_of s k h hd]; exact ⟨rfl, rfl⟩
theorem name_good (s : ByteArray) (k : Nat) (w : World) (h : s.size ≤ k) (ha : (s.data.toList.take k).all nameB = true) : Ending.returned (.bool (decide (1 ≤ s.size) && decide (s.size ≤ 8))) = Ending.returned (.bool (isName s.data.toList)) ∧ w = w := by
  rw [List.take_of_length_le (by rw [size_len]; exact h)] at ha
  unfold isName
  rw [ha, size_len]; exact ⟨rfl, rfl⟩

theorem nameByte_any (c : Int) (w : World) (h0 : 0 ≤ c) (h1 : c ≤ 255) :
    Calls Tryz.prog 68 #[.int .u8 c] w fun e w' => e = .returned (.bool ((decide (97 ≤ c) && decide (c ≤ 122)) || (decide (48 ≤ c) && decide (c ≤ 57)))) ∧ w' = w := by
  by_cases a : 97 ≤ c
  · by_cases b : c ≤ 122
    · go_enter Tryz.func68, Tryz.ntmps68
      go_wp2
      go_ret
      exact ⟨by simp [a, b], rfl⟩
    · go_enter Tryz.func68, Tryz.ntmps68
      go_wp2
      go_ret
      exact ⟨by simp <;> omega, rfl⟩
  · by_cases b : 48 ≤ c
    · by_cases d : c ≤ 57
      · go_enter Tryz.func68, Tryz.ntmps68
        go_wp2
        go_ret
        exact ⟨by simp <;> omega, rfl⟩
      · go_enter Tryz.func68, Tryz.ntmps68
        go_wp2
        go_ret
        exact ⟨by simp <;> omega, rfl⟩
    · go_enter Tryz.func68, Tryz.ntmps68
      go_wp2
      go_ret
      exact ⟨by simp <;> omega, rfl⟩
theorem nameByte_yes (c : Int) (w : World) (h0 : 0 ≤ c) (h1 : c ≤ 255) (h : (97 ≤ c ∧ c ≤ 122) ∨ (48 ≤ c ∧ c ≤ 57)) :
    Calls Tryz.prog 68 #[.int .u8 c] w fun e w' => e = .returned (.bool true) ∧ w' = w := by
  refine (nameByte_any c w h0 h1).mono ?_
  rintro e w' ⟨rfl, rfl⟩
  exact ⟨by simp <;> omega, rfl⟩
theorem nameByte_no (c : Int) (w : World) (h0 : 0 ≤ c) (h1 : c ≤ 255) (h : ¬ ((97 ≤ c ∧ c ≤ 122) ∨ (48 ≤ c ∧ c ≤ 57))) :
    Calls Tryz.prog 68 #[.int .u8 c] w fun e w' => e = .returned (.bool false) ∧ w' = w := by
  refine (nameByte_any c w h0 h1).mono ?_
  rintro e w' ⟨rfl, rfl⟩
  exact ⟨by simp <;> omega, rfl⟩

set_option maxHeartbeats 1000000 in
/-- goods.Name. -/
theorem name_any (s : ByteArray) (w : World) (hz : s.size ≤ maxLen) :
    Calls Tryz.prog 57 #[.string s] w fun e w' => e = .returned (.bool (isName s.data.toList)) ∧ w' = w := by
  unfold maxLen at hz
  by_cases h0 : 1 ≤ s.size
  · have he := isEmpty_of s h0
    have he' : ¬ s.toList = [] := by rw [← List.isEmpty_iff, he]; decide
    by_cases h1 : s.size ≤ 8
    · go_enter Tryz.func57, Tryz.ntmps57
      go_wp2
      go_loop [13] (fun i => ∃ k : Nat, k ≤ s.size ∧ i = .int .i64 k ∧ (s.data.toList.take k).all nameB = true) (fun i => s.size - (RowKit.intOf i).toNat)
      case atStart => exact ⟨0, Nat.zero_le _, rfl, rfl⟩
      case round =>
        obtain ⟨k, hk, rfl, hall⟩ := hrel
        by_cases hlt : k < s.size
        · have HS : Hid (s.data.toList.take (k + 1) = s.data.toList.take k ++ [s[k]]) := take_snoc s k hlt
          have HA : Hid ((s.data.toList.take k).all nameB = true) := hall
          clear hall
          have hb : 0 ≤ (s[k].toNat : Int) ∧ (s[k].toNat : Int) ≤ 255 := by have := s[k].toNat_lt; omega
          by_cases hc : (97 ≤ (s[k].toNat : Int) ∧ (s[k].toNat : Int) ≤ 122) ∨ (48 ≤ (s[k].toNat : Int) ∧ (s[k].toNat : Int) ≤ 57)
          · have hy := nameByte_yes s[k].toNat w hb.1 hb.2 hc
            have HC : Hid (nameB s[k] = true) := by show _ = _; unfold nameB; simp; omega
            clear hc
            go_wp2_with (go_at_call 68; refine hy.mono ?_; rintro e w1 ⟨rfl, rfl⟩)
            go_round
            case rel => exact ⟨k + 1, by omega, by go_num, by rw [HS.out, List.all_append, HA.out]; simp [HC.out]⟩
            case measure => simp [RowKit.intOf]; omega
          · have hy := nameByte_no s[k].toNat w hb.1 hb.2 hc
            have HC : Hid (nameB s[k] = false) := by show _ = _; unfold nameB; simp; omega
            clear hc
            go_wp2_with (go_at_call 68; refine hy.mono ?_; rintro e w1 ⟨rfl, rfl⟩)
            go_ret
            exact name_bad s k _ hlt HC.out
        · go_wp2
          go_ret
          have := name_good s k w (by omega) hall
          rw [decide_eq_true h0, decide_eq_true h1] at this
          exact this
    · go_enter Tryz.func57, Tryz.ntmps57
      go_wp2
      go_ret
      refine ⟨?_, rfl⟩
      unfold isName
      rw [size_len, decide_eq_false h1]; simp
  · have hs : s.data.toList = [] := List.eq_nil_of_length_eq_zero (by rw [size_len]; omega)
    have he : s = ByteArray.empty := isEmpty_nil hs
    clear hs
    subst he
    go_enter Tryz.func57, Tryz.ntmps57
    go_wp2
    go_ret
    exact ⟨rfl, rfl⟩

set_option maxHeartbeats 1000000 in
/-- IsName. -/
theorem isName_any (s : ByteArray) (w : World) (hz : s.size ≤ maxLen) :
    Calls Tryz.prog 26 #[.string s] w fun e w' => e = .returned (.bool (isName s.data.toList)) ∧ w' = w := by
  unfold maxLen at hz
  go_enter Tryz.func26, Tryz.ntmps26
  go_wp2
  go_loop [3] (fun i => ∃ k : Nat, k ≤ s.size ∧ i = .int .i64 k ∧ (s.data.toList.take k).all nameB = true) (fun i => s.size - (RowKit.intOf i).toNat)
  case atStart => exact ⟨0, Nat.zero_le _, rfl, rfl⟩
  case round =>
    obtain ⟨k, hk, rfl, hall⟩ := hrel
    by_cases hlt : k < s.size
    · have HS : Hid (s.data.toList.take (k + 1) = s.data.toList.take k ++ [s[k]]) := take_snoc s k hlt
      have HA : Hid ((s.data.toList.take k).all nameB = true) := hall
      clear hall
      have hb : 0 ≤ (s[k].toNat : Int) ∧ (s[k].toNat : Int) ≤ 255 := by have := s[k].toNat_lt; omega
      have hcases : (s[k].toNat : Int) < 48 ∨ (48 ≤ (s[k].toNat : Int) ∧ (s[k].toNat : Int) ≤ 57) ∨ (57 < (s[k].toNat : Int) ∧ (s[k].toNat : Int) < 97) ∨ (97 ≤ (s[k].toNat : Int) ∧ (s[k].toNat : Int) ≤ 122) ∨ 122 < (s[k].toNat : Int) := by omega
      rcases hcases with hc | hc | hc | hc | hc
      · have HC : Hid (nameB s[k] = false) := by show _ = _; unfold nameB; simp; omega
        go_wp2
        go_ret
        exact name_bad s k _ hlt HC.out
      · have HC : Hid (nameB s[k] = true) := by show _ = _; unfold nameB; simp; omega
        obtain ⟨c1, c2⟩ := hc
        go_wp2
        go_round
        case rel => exact ⟨k + 1, by omega, by go_num, by rw [HS.out, List.all_append, HA.out]; simp [HC.out]⟩
        case measure => simp [RowKit.intOf]; omega
      · have HC : Hid (nameB s[k] = false) := by show _ = _; unfold nameB; simp; omega
        obtain ⟨c1, c2⟩ := hc
        have b1 : decide ((s[k].toNat : Int) ≤ 57) = false := decide_eq_false (by omega)
        go_wp2
        go_ret
        exact name_bad s k _ hlt HC.out
      · have HC : Hid (nameB s[k] = true) := by show _ = _; unfold nameB; simp; omega
        obtain ⟨c1, c2⟩ := hc
        go_wp2
        go_round
        case rel => exact ⟨k + 1, by omega, by go_num, by rw [HS.out, List.all_append, HA.out]; simp [HC.out]⟩
        case measure => simp [RowKit.intOf]; omega
      · have HC : Hid (nameB s[k] = false) := by show _ = _; unfold nameB; simp; omega
        have b1 : decide ((s[k].toNat : Int) ≤ 57) = false := decide_eq_false (by omega)
        have b2 : decide ((s[k].toNat : Int) ≤ 122) = false := decide_eq_false (by omega)
        go_wp2
        go_ret
        exact name_bad s k _ hlt HC.out
    · have HA : Hid ((s.data.toList.take k).all nameB = true) := hall
      clear hall
      by_cases h1 : 1 ≤ s.size
      · go_wp2
        go_ret
        have := name_good s k w (by omega) HA.out
        rw [decide_eq_true h1] at this
        have e2 : decide ((s.size : Int) ≤ 8) = decide (s.size ≤ 8) := decide_eq_decide.2 (by omega)
        simpa [e2] using this
      · go_wp2
        go_ret
        have := name_good s k w (by omega) HA.out
        rw [decide_eq_false h1] at this
        simpa using this
end Go.Proofs.YtgdhfipbbijngaaGreatDoor
