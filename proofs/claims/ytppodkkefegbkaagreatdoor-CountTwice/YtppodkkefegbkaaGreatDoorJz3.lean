/-
 Plain mathematics of places: their order by the way, their steps, the number of their error; no program is named here.
-/
import Derived.Sort.LotA
import Derived.Lib.Small
import Derived.Test.YtppodkkefegbkaaGreatDoorJz2
import Derived.Deep.RegionHeld3
import Derived.Sort.Walk0
import Derived.Laws.Cover1
import Derived.Lib.QuietBelow
import Derived.Laws.Concat
set_option maxRecDepth 100000
set_option maxHeartbeats 16000000
namespace Go.Proofs.YtppodkkefegbkaaGreatDoor
open Go.Lib Go.Sort
abbrev Pl := ByteArray × Int × Int
def zLt (a b : ByteArray) : Bool := decide (a.data.toList < b.data.toList)
def cmpZ (a b : ByteArray) : Int := if zLt a b then -1 else if zLt b a then 1 else 0
def or3 (a b c : Int) : Int := if a = 0 then (if b = 0 then c else b) else a
def bays (r a b : Int) : Int := if r.tmod 2 = 0 then compareInt b a else compareInt a b
def cmpP (x y : Pl) : Int := or3 (cmpZ x.1 y.1) (compareInt x.2.1 y.2.1) (bays x.2.1 x.2.2 y.2.2)
def aheadP (x y : Pl) : Bool := decide (cmpP x y < 0)
theorem zLt_irrefl (a : ByteArray) : zLt a a = false := by unfold zLt; simp [List.lt_irrefl]
theorem zLt_asymm {a b : ByteArray} (h : zLt a b = true) : zLt b a = false := by
 unfold zLt at *; simp only [decide_eq_true_eq, decide_eq_false_iff_not] at *
 exact fun h' => List.lt_irrefl _ (List.lt_trans h h')
theorem zLt_trans {a b c : ByteArray} (h : zLt a b = true) (h' : zLt b c = true) : zLt a c = true := by
 unfold zLt at *; simp only [decide_eq_true_eq] at *
 exact List.lt_trans h h'
theorem zLt_total {a b : ByteArray} (h : zLt a b = false) (h' : zLt b a = false) : a = b := by
 unfold zLt at *; simp only [decide_eq_false_iff_not, List.not_lt] at *
 have e := List.le_antisymm h' h
 cases a; cases b; simp at e; simp [e]
theorem cmpZ_self (a : ByteArray) : cmpZ a a = 0 := by unfold cmpZ; simp [zLt_irrefl]
theorem cmpZ_cases (a b : ByteArray) : (zLt a b = true ∧ zLt b a = false ∧ a ≠ b ∧ cmpZ a b = -1) ∨ (zLt a b = false ∧ zLt b a = true ∧ a ≠ b ∧ cmpZ a b = 1) ∨ (zLt a b = false ∧ zLt b a = false ∧ a = b ∧ cmpZ a b = 0) := by
 cases h1 : zLt a b with
 | true =>
  have h2 := zLt_asymm h1
  refine Or.inl ⟨rfl, h2, ?_, by unfold cmpZ; simp [h1]⟩
  rintro rfl; rw [zLt_irrefl] at h1; cases h1
 | false =>
  cases h2 : zLt b a with
  | true =>
   refine Or.inr (Or.inl ⟨rfl, rfl, ?_, by unfold cmpZ; simp [h1, h2]⟩)
   rintro rfl; rw [zLt_irrefl] at h2; cases h2
  | false => exact Or.inr (Or.inr ⟨rfl, rfl, zLt_total h1 h2, by unfold cmpZ; simp [h1, h2]⟩)
theorem cmpI_cases (a b : Int) : (a < b ∧ compareInt a b = -1) ∨ (b < a ∧ compareInt a b = 1) ∨ (a = b ∧ compareInt a b = 0) := by
 unfold compareInt
 rcases Int.lt_trichotomy a b with h | h | h
 ·exact Or.inl ⟨h, by rw [if_pos h]⟩
 ·exact Or.inr (Or.inr ⟨h, by subst h; simp⟩)
 ·exact Or.inr (Or.inl ⟨h, by rw [if_neg (by omega), if_pos h]⟩)
def aheadW (x y : Pl) : Prop := zLt x.1 y.1 = true ∨ (x.1 = y.1 ∧ (x.2.1 < y.2.1 ∨ (x.2.1 = y.2.1 ∧ ((x.2.1.tmod 2 = 0 ∧ y.2.2 < x.2.2) ∨ (x.2.1.tmod 2 ≠ 0 ∧ x.2.2 < y.2.2)))))
theorem aheadP_iff (x y : Pl) : aheadP x y = true ↔ aheadW x y := by
 obtain ⟨a, r, b⟩ := x
 obtain ⟨a', r', b'⟩ := y
 unfold aheadP aheadW cmpP or3 bays
 simp only [decide_eq_true_eq]
 rcases cmpZ_cases a a' with ⟨h1, h2, h3, h4⟩ | ⟨h1, h2, h3, h4⟩ | ⟨h1, h2, h3, h4⟩
 ·rw [h4, h1]; simp
 ·rw [h4, h1]; simp [h3]
 ·rw [h4, h1]
  subst h3
  rcases cmpI_cases r r' with ⟨k1, k2⟩ | ⟨k1, k2⟩ | ⟨k1, k2⟩
  ·rw [k2]; simp [k1]
  ·rw [k2]; simp; omega
  ·rw [k2]; subst k1
   by_cases hp : r.tmod 2 = 0
   ·rcases cmpI_cases b' b with ⟨m1, m2⟩ | ⟨m1, m2⟩ | ⟨m1, m2⟩ <;> simp [hp, m2] <;> omega
   ·rcases cmpI_cases b b' with ⟨m1, m2⟩ | ⟨m1, m2⟩ | ⟨m1, m2⟩ <;> simp [hp, m2] <;> omega
theorem aheadW_irrefl (x : Pl) : ¬ aheadW x x := by
 unfold aheadW; rw [zLt_irrefl]; simp
theorem aheadW_trans {x y z : Pl} (h : aheadW x y) (h' : aheadW y z) : aheadW x z := by
 obtain ⟨a, r, b⟩ := x
 obtain ⟨a', r', b'⟩ := y
 obtain ⟨a'', r'', b''⟩ := z
 unfold aheadW at *
 simp only at *
 rcases h with h | ⟨rfl, h⟩
 ·rcases h' with h' | ⟨rfl, h'⟩
  ·exact Or.inl (zLt_trans h h')
  ·exact Or.inl h
 ·rcases h' with h' | ⟨rfl, h'⟩
  ·exact Or.inl h'
  ·refine Or.inr ⟨rfl, ?_⟩
   rcases h with h | ⟨rfl, h⟩
   ·rcases h' with h' | ⟨rfl, h'⟩
    ·exact Or.inl (by omega)
    ·exact Or.inl h
   ·rcases h' with h' | ⟨rfl, h'⟩
    ·exact Or.inl h'
    ·refine Or.inr ⟨rfl, ?_⟩
     rcases h with ⟨p, h⟩ | ⟨p, h⟩ <;> rcases h' with ⟨p', h'⟩ | ⟨p', h'⟩
     ·exact Or.inl ⟨p, by omega⟩
     ·exact absurd p p'
     ·exact absurd p' p
     ·exact Or.inr ⟨p, by omega⟩
theorem aheadW_total (x y : Pl) : aheadW x y ∨ aheadW y x ∨ x = y := by
 obtain ⟨a, r, b⟩ := x
 obtain ⟨a', r', b'⟩ := y
 unfold aheadW
 simp only
 rcases cmpZ_cases a a' with ⟨h1, h2, h3, h4⟩ | ⟨h1, h2, h3, h4⟩ | ⟨h1, h2, h3, h4⟩
 ·exact Or.inl (Or.inl h1)
 ·exact Or.inr (Or.inl (Or.inl h2))
 ·subst h3
  rcases Int.lt_trichotomy r r' with k | k | k
  ·exact Or.inl (Or.inr ⟨rfl, Or.inl k⟩)
  ·subst k
   by_cases hp : r.tmod 2 = 0
   ·rcases Int.lt_trichotomy b b' with m | m | m
    ·exact Or.inr (Or.inl (Or.inr ⟨rfl, Or.inr ⟨rfl, Or.inl ⟨hp, m⟩⟩⟩))
    ·subst m; exact Or.inr (Or.inr rfl)
    ·exact Or.inl (Or.inr ⟨rfl, Or.inr ⟨rfl, Or.inl ⟨hp, m⟩⟩⟩)
   ·rcases Int.lt_trichotomy b b' with m | m | m
    ·exact Or.inl (Or.inr ⟨rfl, Or.inr ⟨rfl, Or.inr ⟨hp, m⟩⟩⟩)
    ·subst m; exact Or.inr (Or.inr rfl)
    ·exact Or.inr (Or.inl (Or.inr ⟨rfl, Or.inr ⟨rfl, Or.inr ⟨hp, m⟩⟩⟩))
  ·exact Or.inr (Or.inl (Or.inr ⟨rfl, Or.inl k⟩))
def well (r b : Int) : Bool := decide (1 ≤ r) && decide (r ≤ 20) && (decide (1 ≤ b) && decide (b ≤ 40))
def placeErr (x : Pl) : Nat := if isName x.1.data.toList then (if well x.2.1 x.2.2 then 0 else 2) else 5
theorem placeErr_le (x : Pl) : placeErr x ≤ 12 := by
 unfold placeErr; split
 ·split <;> decide
 ·decide
def okP (x : Pl) : Bool := isName x.1.data.toList && well x.2.1 x.2.2
theorem okP_err (x : Pl) : okP x = true ↔ placeErr x = 0 := by
 unfold okP placeErr
 cases isName x.1.data.toList <;> cases well x.2.1 x.2.2 <;> simp
theorem okP_bounds {x : Pl} (h : okP x = true) : isName x.1.data.toList = true ∧ 1 ≤ x.2.1 ∧ x.2.1 ≤ 20 ∧ 1 ≤ x.2.2 ∧ x.2.2 ≤ 40 := by
 unfold okP well at h
 simp at h
 exact ⟨h.1, h.2.1.1, h.2.1.2, h.2.2.1, h.2.2.2⟩
end Go.Proofs.YtppodkkefegbkaaGreatDoor
namespace Go.Proofs.YtppodkkefegbkaaGreatDoor
open Go.RowKit Go.Lib Go.Sort
theorem less_eq (x y : ByteArray) : Op.bytesLess x.toList y.toList = zLt x y := by
 rw [bytesLess_eq, Lib.toList_data, Lib.toList_data]; rfl
theorem same_eq (x y : ByteArray) : (x.toList == y.toList) = decide (x = y) := by
 rw [Lib.toList_data, Lib.toList_data, Bool.eq_iff_iff]
 simp only [beq_iff_eq, decide_eq_true_eq]
 constructor
 ·intro h; cases x; cases y; simp at h; simp [h]
 ·rintro rfl; rfl
def or2 (a b : Int) : Int := if a = 0 then b else a
abbrev agP (x : Pl) : Value := .agg #[.string x.1, .int .i64 x.2.1, .int .i64 x.2.2]
structure Two (w : World) (s : Nat → Addr) : Prop where
 bound : w.cell? ⟨5, 0, none⟩ = some (err (s 1))
 name : w.cell? ⟨8, 0, none⟩ = some (err (s 4))
theorem Two.below {w w' : World} {s : Nat → Addr} (h : Two w s) (hb : Below w.heap.size w w') : Two w' s where
 bound := by rw [hb.cell (p := ⟨5, 0, none⟩) (cell_lt h.bound)]; exact h.bound
 name := by rw [hb.cell (p := ⟨8, 0, none⟩) (cell_lt h.name)]; exact h.name
theorem Sent.two {w : World} {s : Nat → Addr} (h : Sent w s) : Two w s := ⟨h.cell 1 (by decide), h.cell 4 (by decide)⟩
def errP (s : Nat → Addr) (code : Nat) : Value := if code = 0 then .nilIface else err (s (code - 1))
theorem errP_zero (s : Nat → Addr) : errP s 0 = .nilIface := rfl
theorem errP_pos (s : Nat → Addr) {k : Nat} (h : k ≠ 0) : errP s k = err (s (k - 1)) := by unfold errP; rw [if_neg h]
structure Three (w : World) (s : Nat → Addr) : Prop where
 two : Two w s
 text : w.cell? ⟨6, 0, none⟩ = some (err (s 0))
theorem Three.below {w w' : World} {s : Nat → Addr} (h : Three w s) (hb : Below w.heap.size w w') : Three w' s where
 two := h.two.below hb
 text := by rw [hb.cell (p := ⟨6, 0, none⟩) (cell_lt h.text)]; exact h.text
theorem Sent.three {w : World} {s : Nat → Addr} (h : Sent w s) : Three w s := ⟨h.two, h.cell 0 (by decide)⟩
def cutB (c : UInt8) (l : List UInt8) : List UInt8 := if has c l then post c l else []
end Go.Proofs.YtppodkkefegbkaaGreatDoor
