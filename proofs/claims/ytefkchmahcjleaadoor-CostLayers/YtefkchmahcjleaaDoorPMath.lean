/-
  Plain mathematics of places: their order by the way, their steps, the number of their error; no program is named here.
-/
import Derived.Sort.LotA
import Derived.Lib.Small
import Derived.Test.YtefkchmahcjleaaDoorName
namespace Go.Proofs.YtefkchmahcjleaaDoor
open Go.Lib Go.Sort

/-- A place: its zone, its row, its bay. -/
abbrev Pl := ByteArray × Int × Int
/-- A zone comes ahead. -/
def zLt (a b : ByteArray) : Bool := decide (a.data.toList < b.data.toList)
/-- cmp.Compare of two strings. -/
def cmpZ (a b : ByteArray) : Int := if zLt a b then -1 else if zLt b a then 1 else 0
/-- cmp.Or of three. -/
def or3 (a b c : Int) : Int := if a = 0 then (if b = 0 then c else b) else a
def bays (r a b : Int) : Int := if r.tmod 2 = 0 then compareInt b a else compareInt a b
def cmpP (x y : Pl) : Int := or3 (cmpZ x.1 y.1) (compareInt x.2.1 y.2.1) (bays x.2.1 x.2.2 y.2.2)
/-- A place comes ahead of another one, by the way. -/
def aheadP (x y : Pl) : Bool := decide (cmpP x y < 0)

theorem zLt_irrefl (a : ByteArray) : zLt a a = false := by unfold zLt; simp [List.lt_irrefl]
theorem zLt_asymm {a b : ByteArray} (h : zLt a b = true) : zLt b a = false := by
  unfold zLt at *; simp only [decide_eq_true_eq, decide_eq_false_iff_not] at *
  exact fun h' => List.lt_irrefl _ (List.lt_trans h h')
theorem zLt_trans {a b c : ByteArray} (h : zLt a b = true) (h' : zLt b c = true) : zLt a c = true := by
  unfold zLt at *; simp only [decide_eq_true_eq] at *
  exact List.lt_trans h h'
theorem zLt_total {a b : ByteArray} (h : zLt a b = false) (h' : zLt b a = false) : a = b := by
  unfold zLt at *; simp only [decide_eq_false_iff_not, List.not_lt] at *
  have e := List.le_antisymm h' h
  cases a; cases b; simp at e; simp [e]

theorem cmpZ_self (a : ByteArray) : cmpZ a a = 0 := by unfold cmpZ; simp [zLt_irrefl]
theorem cmpZ_cases (a b : ByteArray) : (zLt a b = true ∧ zLt b a = false ∧ a ≠ b ∧ cmpZ a b = -1) ∨ (zLt a b = false ∧ zLt b a = true ∧ a ≠ b ∧ cmpZ a b = 1) ∨ (zLt a b = false ∧ zLt b a = false ∧ a = b ∧ cmpZ a b = 0) := by
  cases h1 : zLt a b with
  | true =>
    have h2 := zLt_asymm h1
    refine Or.inl ⟨rfl, h2, ?_, by unfold cmpZ; simp [h1]⟩
    rintro rfl; rw [zLt_irrefl] at h1; cases h1
  | false =>
    cases h2 : zLt b a with
    | true =>
      refine Or.inr (Or.inl ⟨rfl, rfl, ?_, by unfold cmpZ; simp [h1, h2]⟩)
      rintro rfl; rw [zLt_irrefl] at h2; cases h2
    | false => exact Or.inr (Or.inr ⟨rfl, rfl, zLt_total h1 h2, by unfold cmpZ; simp [h1, h2]⟩)
theorem cmpI_cases (a b : Int) : (a < b ∧ compareInt a b = -1) ∨ (b < a ∧ compareInt a b = 1) ∨ (a = b ∧ compareInt a b = 0) := by
  unfold compareInt
  rcases Int.lt_trichotomy a b with h | h | h
  · exact Or.inl ⟨h, by rw [if_pos h]⟩
  · exact Or.inr (Or.inr ⟨h, by subst h; simp⟩)
  · exact Or.inr (Or.inl ⟨h, by rw [if_neg (by omega), if_pos h]⟩)

/-- The order in plain words. -/
def aheadW (x y : Pl) : Prop := zLt x.1 y.1 = true ∨ (x.1 = y.1 ∧ (x.2.1 < y.2.1 ∨ (x.2.1 = y.2.1 ∧ ((x.2.1.tmod 2 = 0 ∧ y.2.2 < x.2.2) ∨ (x.2.1.tmod 2 ≠ 0 ∧ x.2.2 < y.2.2)))))
theorem aheadP_iff (x y : Pl) : aheadP x y = true ↔ aheadW x y := by
  obtain ⟨a, r, b⟩ := x
  obtain ⟨a', r', b'⟩ := y
  unfold aheadP aheadW cmpP or3 bays
  simp only [decide_eq_true_eq]
  rcases cmpZ_cases a a' with ⟨h1, h2, h3, h4⟩ | ⟨h1, h2, h3, h4⟩ | ⟨h1, h2, h3, h4⟩
  · rw [h4, h1]; simp
  · rw [h4, h1]; simp [h3]
  · rw [h4, h1]
    subst h3
    rcases cmpI_cases r r' with ⟨k1, k2⟩ | ⟨k1, k2⟩ | ⟨k1, k2⟩
    · rw [k2]; simp [k1]
    · rw [k2]; simp; omega
    · rw [k2]; subst k1
      by_cases hp : r.tmod 2 = 0
      · rcases cmpI_cases b' b with ⟨m1, m2⟩ | ⟨m1, m2⟩ | ⟨m1, m2⟩ <;> simp [hp, m2] <;> omega
      · rcases cmpI_cases b b' with ⟨m1, m2⟩ | ⟨m1, m2⟩ | ⟨m1, m2⟩ <;> simp [hp, m2] <;> omega
theorem aheadP_no (x y : Pl) : aheadP x y = false ↔ ¬ aheadW x y := by rw [← aheadP_iff]; simp

theorem aheadW_irrefl (x : Pl) : ¬ aheadW x x := by
  unfold aheadW; rw [zLt_irrefl]; simp
theorem aheadW_trans {x y z : Pl} (h : aheadW x y) (h' : aheadW y z) : aheadW x z := by
  obtain ⟨a, r, b⟩ := x
  obtain ⟨a', r', b'⟩ := y
  obtain ⟨a'', r'', b''⟩ := z
  unfold aheadW at *
  simp only at *
  rcases h with h | ⟨rfl, h⟩
  · rcases h' with h' | ⟨rfl, h'⟩
    · exact Or.inl (zLt_trans h h')
    · exact Or.inl h
  · rcases h' with h' | ⟨rfl, h'⟩
    · exact Or.inl h'
    · refine Or.inr ⟨rfl, ?_⟩
      rcases h with h | ⟨rfl, h⟩
      · rcases h' with h' | ⟨rfl, h'⟩
        · exact Or.inl (by omega)
        · exact Or.inl h
      · rcases h' with h' | ⟨rfl, h'⟩
        · exact Or.inl h'
        · refine Or.inr ⟨rfl, ?_⟩
          rcases h with ⟨p, h⟩ | ⟨p, h⟩ <;> rcases h' with ⟨p', h'⟩ | ⟨p', h'⟩
          · exact Or.inl ⟨p, by omega⟩
          · exact absurd p p'
          · exact absurd p' p
          · exact Or.inr ⟨p, by omega⟩
theorem aheadW_total (x y : Pl) : aheadW x y ∨ aheadW y x ∨ x = y := by
  obtain ⟨a, r, b⟩ := x
  obtain ⟨a', r', b'⟩ := y
  unfold aheadW
  simp only
  rcases cmpZ_cases a a' with ⟨h1, h2, h3, h4⟩ | ⟨h1, h2, h3, h4⟩ | ⟨h1, h2, h3, h4⟩
  · exact Or.inl (Or.inl h1)
  · exact Or.inr (Or.inl (Or.inl h2))
  · subst h3
    rcases Int.lt_trichotomy r r' with k | k | k
    · exact Or.inl (Or.inr ⟨rfl, Or.inl k⟩)
    · subst k
      by_cases hp : r.tmod 2 = 0
      · rcases Int.lt_trichotomy b b' with m | m | m
        · exact Or.inr (Or.inl (Or.inr ⟨rfl, Or.inr ⟨rfl, Or.inl ⟨hp, m⟩⟩⟩))
        · subst m; exact Or.inr (Or.inr rfl)
        · exact Or.inl (Or.inr ⟨rfl, Or.inr ⟨rfl, Or.inl ⟨hp, m⟩⟩⟩)
      · rcases Int.lt_trichotomy b b' with m | m | m
        · exact Or.inl (Or.inr ⟨rfl, Or.inr ⟨rfl, Or.inr ⟨hp, m⟩⟩⟩)
        · subst m; exact Or.inr (Or.inr rfl)
        · exact Or.inr (Or.inl (Or.inr ⟨rfl, Or.inr ⟨rfl, Or.inr ⟨hp, m⟩⟩⟩))
    · exact Or.inr (Or.inl (Or.inr ⟨rfl, Or.inl k⟩))
theorem aheadW_asymm {x y : Pl} (h : aheadW x y) : ¬ aheadW y x := fun h' => aheadW_irrefl x (aheadW_trans h h')
theorem swoP : SWO aheadP where
  irrefl x := (aheadP_no x x).2 (aheadW_irrefl x)
  trans x y z h1 h2 := (aheadP_iff x z).2 (aheadW_trans ((aheadP_iff x y).1 h1) ((aheadP_iff y z).1 h2))
  ntrans x y z h1 h2 := by
    rw [aheadP_no] at *
    intro h
    rcases aheadW_total x y with k | k | rfl
    · exact h1 k
    · exact h2 (aheadW_trans k h)
    · exact h2 h
theorem aheadP_unlike (x y : Pl) : (aheadP x y && aheadP y x) = false ∧ (aheadP x y || aheadP y x) = !decide (x = y) := by
  cases h1 : aheadP x y with
  | true =>
    have a1 := (aheadP_iff x y).1 h1
    have h2 : aheadP y x = false := (aheadP_no y x).2 (aheadW_asymm a1)
    rw [h2]
    have : x ≠ y := by rintro rfl; exact aheadW_irrefl _ a1
    simp [this]
  | false =>
    have a1 := (aheadP_no x y).1 h1
    cases h2 : aheadP y x with
    | true =>
      have a2 := (aheadP_iff y x).1 h2
      have : x ≠ y := by rintro rfl; exact aheadW_irrefl _ a2
      simp [this]
    | false =>
      have a2 := (aheadP_no y x).1 h2
      rcases aheadW_total x y with k | k | rfl
      · exact absurd k a1
      · exact absurd k a2
      · simp

/-- The number of an error of a place. -/
def well (r b : Int) : Bool := decide (1 ≤ r) && decide (r ≤ 20) && (decide (1 ≤ b) && decide (b ≤ 40))
def placeErr (x : Pl) : Nat := if isName x.1.data.toList then (if well x.2.1 x.2.2 then 0 else 2) else 5
theorem placeErr_le (x : Pl) : placeErr x ≤ 12 := by
  unfold placeErr; split
  · split <;> decide
  · decide
def okP (x : Pl) : Bool := isName x.1.data.toList && well x.2.1 x.2.2
theorem okP_err (x : Pl) : okP x = true ↔ placeErr x = 0 := by
  unfold okP placeErr
  cases isName x.1.data.toList <;> cases well x.2.1 x.2.2 <;> simp
theorem okP_bounds {x : Pl} (h : okP x = true) : isName x.1.data.toList = true ∧ 1 ≤ x.2.1 ∧ x.2.1 ≤ 20 ∧ 1 ≤ x.2.2 ∧ x.2.2 ≤ 40 := by
  unfold okP well at h
  simp at h
  exact ⟨h.1, h.2.1.1, h.2.1.2, h.2.2.1, h.2.2.2⟩
/-- The steps of a way. -/
def farI (a b : Int) : Int := if b < a then a - b else b - a
def stepsP (x y : Pl) : Int :=
  if okP x && okP y then (if x.1 = y.1 then (if x.2.1 = y.2.1 then farI x.2.2 y.2.2 else x.2.2 + y.2.2 + 2 * farI x.2.1 y.2.1) else x.2.2 + y.2.2 + 2 * (x.2.1 + y.2.1) + 100) else 0
theorem farI_comm (a b : Int) : farI a b = farI b a := by unfold farI; split <;> split <;> omega
theorem farI_zero (a b : Int) : farI a b = 0 ↔ a = b := by unfold farI; split <;> omega
theorem farI_nonneg (a b : Int) : 0 ≤ farI a b := by unfold farI; split <;> omega
theorem farI_le {a b n : Int} (h1 : 1 ≤ a) (h2 : 1 ≤ b) (h3 : a ≤ n) (h4 : b ≤ n) : farI a b < n := by unfold farI; split <;> omega
theorem farI_tri (a b c : Int) : farI a b ≤ farI a c + farI c b := by unfold farI; split <;> split <;> split <;> omega
theorem stepsP_comm (x y : Pl) : stepsP x y = stepsP y x := by
  unfold stepsP
  rw [Bool.and_comm, farI_comm x.2.2, farI_comm x.2.1]
  split
  · by_cases h : x.1 = y.1
    · rw [if_pos h, if_pos h.symm]
      by_cases h' : x.2.1 = y.2.1
      · rw [if_pos h', if_pos h'.symm]
      · rw [if_neg h', if_neg (fun e => h' e.symm)]; omega
    · rw [if_neg h, if_neg (fun e => h e.symm)]; omega
  · rfl
theorem stepsP_bound (x y : Pl) : 0 ≤ stepsP x y ∧ stepsP x y ≤ 300 := by
  unfold stepsP
  split
  · rename_i h
    simp only [Bool.and_eq_true] at h
    obtain ⟨_, a1, a2, a3, a4⟩ := okP_bounds h.1
    obtain ⟨_, b1, b2, b3, b4⟩ := okP_bounds h.2
    have f1 := farI_nonneg x.2.2 y.2.2
    have f2 := farI_nonneg x.2.1 y.2.1
    have f3 := farI_le a3 b3 a4 b4
    have f4 := farI_le a1 b1 a2 b2
    split
    · split <;> omega
    · omega
  · omega
theorem stepsP_zero {x y : Pl} (hx : okP x = true) (hy : okP y = true) : decide (stepsP x y = 0) = decide (x = y) := by
  obtain ⟨a, r, b⟩ := x
  obtain ⟨a', r', b'⟩ := y
  obtain ⟨_, a1, a2, a3, a4⟩ := okP_bounds hx
  obtain ⟨_, b1, b2, b3, b4⟩ := okP_bounds hy
  apply decide_eq_decide.2
  unfold stepsP
  rw [hx, hy]
  simp only [Bool.and_self, if_true]
  simp only at a1 a2 a3 a4 b1 b2 b3 b4
  have f2 := farI_nonneg r r'
  by_cases h : a = a'
  · rw [if_pos h]
    by_cases h' : r = r'
    · rw [if_pos h', farI_zero]; simp [h, h']
    · rw [if_neg h']; simp [h']; omega
  · rw [if_neg h]; simp [h]; omega
theorem stepsP_tri {x y z : Pl} (hx : okP x = true) (hy : okP y = true) (hz : okP z = true) : stepsP x y ≤ stepsP x z + stepsP z y := by
  obtain ⟨a, r, b⟩ := x
  obtain ⟨a', r', b'⟩ := y
  obtain ⟨a'', r'', b''⟩ := z
  obtain ⟨_, a1, a2, a3, a4⟩ := okP_bounds hx
  obtain ⟨_, b1, b2, b3, b4⟩ := okP_bounds hy
  obtain ⟨_, c1, c2, c3, c4⟩ := okP_bounds hz
  unfold stepsP
  rw [hx, hy, hz]
  simp only [Bool.and_self, if_true]
  simp only at a1 a2 a3 a4 b1 b2 b3 b4 c1 c2 c3 c4
  have t1 := farI_tri b b' b''
  have t2 := farI_tri r r' r''
  have n1 := farI_nonneg b b''
  have n2 := farI_nonneg b'' b'
  have n3 := farI_nonneg r r''
  have n4 := farI_nonneg r'' r'
  have l1 := farI_le a1 b1 a2 b2
  have l2 := farI_le a3 b3 a4 b4
  have u1 : farI b b'' ≤ b + b'' := by unfold farI; split <;> omega
  have u2 : farI b'' b' ≤ b'' + b' := by unfold farI; split <;> omega
  have v1 : b ≤ b'' + farI b b'' := by unfold farI; split <;> omega
  have v2 : b' ≤ b'' + farI b'' b' := by unfold farI; split <;> omega
  have v3 : farI b b' ≤ b + b' := by unfold farI; split <;> omega
  have w3 : farI r r' ≤ r + r' := by unfold farI; split <;> omega
  have v4 : r ≤ r'' + farI r r'' := by unfold farI; split <;> omega
  have v5 : r' ≤ r'' + farI r'' r' := by unfold farI; split <;> omega
  by_cases h : a = a'
  · subst h
    by_cases h' : a = a''
    · subst h'
      simp only [if_true]
      by_cases e1 : r = r'
      · subst e1
        by_cases e2 : r = r''
        · subst e2; simp only [if_true]; omega
        · have e3 : ¬ r'' = r := fun e => e2 e.symm
          rw [if_pos rfl, if_neg e2, if_neg e3]; omega
      · by_cases e2 : r = r''
        · subst e2
          rw [if_neg e1, if_pos rfl, if_neg e1]; omega
        · by_cases e3 : r'' = r'
          · subst e3
            rw [if_neg e1, if_neg e1, if_pos rfl]; omega
          · rw [if_neg e1, if_neg e2, if_neg e3]; omega
    · have h2 : ¬ a'' = a := fun e => h' e.symm
      rw [if_pos rfl, if_neg h', if_neg h2]
      split <;> omega
  · by_cases h' : a = a''
    · subst h'
      rw [if_neg h, if_pos rfl, if_neg h]
      split
      · rename_i e; omega
      · omega
    · rw [if_neg h, if_neg h']
      by_cases h2 : a'' = a'
      · rw [if_pos h2]
        split
        · rename_i e; omega
        · omega
      · rw [if_neg h2]; omega
end Go.Proofs.YtefkchmahcjleaaDoor
