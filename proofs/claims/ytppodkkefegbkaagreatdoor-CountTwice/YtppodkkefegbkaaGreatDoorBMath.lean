/-
 Plain mathematics of a book: goods with their sums, lots with what is held, lines; what an entry does to it; no program is named here.
-/
import Derived.Test.YtppodkkefegbkaaGreatDoorJz11
import Derived.Test.YtppodkkefegbkaaGreatDoorKMath
set_option maxRecDepth 100000
set_option maxHeartbeats 16000000
namespace Go.Proofs.YtppodkkefegbkaaGreatDoor
open Go.Lib Go.Sort
abbrev Su := Int × Int × Int × Int
abbrev Gs := Gd × Su
abbrev Lh := Lo × Int
abbrev Bk := List Gs × List Lh × List Ln
def zeroSu : Su := (0, 0, 0, 0)
def findI {α : Type} (f : α → ByteArray) (m : List α) (c : ByteArray) : Int := match m.findIdx? (fun x => decide (f x = c)) with | some i => (i : Int) | none => -1
theorem findI_none {α : Type} {f : α → ByteArray} {m : List α} {c : ByteArray} (h : ∀ x ∈ m, f x ≠ c) : findI f m c = -1 := by
 unfold findI
 rw [List.findIdx?_eq_none_iff.2 (fun l hl => by simpa using h l hl)]
theorem findI_at {α : Type} {f : α → ByteArray} {m : List α} {c : ByteArray} {i : Nat} {x : α} (hx : m[i]? = some x) (hc : f x = c) (hno : ∀ y ∈ m.take i, f y ≠ c) : findI f m c = i := by
 obtain ⟨hi, e⟩ := List.getElem?_eq_some_iff.1 hx
 unfold findI
 rw [List.findIdx?_eq_some_iff_getElem.2 ⟨hi, by rw [e]; simpa using hc, fun j hj => by
  have := hno m[j] (List.mem_take_iff_getElem.2 ⟨j, by omega, rfl⟩)
  simpa using this⟩]
theorem findI_cases {α : Type} (f : α → ByteArray) (m : List α) (c : ByteArray) : (findI f m c = -1 ∧ ∀ x ∈ m, f x ≠ c) ∨ ∃ (i : Nat) (x : α), findI f m c = i ∧ m[i]? = some x ∧ f x = c := by
 unfold findI
 cases h : m.findIdx? (fun x => decide (f x = c)) with
 | none => exact Or.inl ⟨rfl, fun l hl => by simpa using List.findIdx?_eq_none_iff.1 h l hl⟩
 | some i =>
  obtain ⟨hi, h1, _⟩ := List.findIdx?_eq_some_iff_getElem.1 h
  exact Or.inr ⟨i, m[i], rfl, List.getElem?_eq_getElem hi, by simpa using h1⟩
theorem takeI_next {α : Type} {m : List α} {k : Nat} {x : α} {P : α → Prop} (hl : m[k]? = some x) (h : ∀ y ∈ m.take k, P y) (h1 : P x) : ∀ y ∈ m.take (k + 1), P y := by
 obtain ⟨hk, e⟩ := List.getElem?_eq_some_iff.1 hl
 rw [List.take_succ_eq_append_getElem hk, e]
 intro y hy
 rcases List.mem_append.1 hy with hy | hy
 ·exact h y hy
 ·obtain rfl : y = x := by simpa using hy
  exact h1
def nameG (g : Gs) : ByteArray := g.1.1
def nameL (l : Lh) : ByteArray := l.1.1
def aheadC {α : Type} (f : α → ByteArray) (c : ByteArray) : List α → Nat
 | [] => 0
 | x :: m => if zLt (f x) c then aheadC f c m + 1 else 0
theorem aheadC_le {α : Type} (f : α → ByteArray) (c : ByteArray) : ∀ m : List α, aheadC f c m ≤ m.length
 | [] => Nat.le_refl _
 | x :: m => by
  unfold aheadC
  have := aheadC_le f c m
  split
  ·simp; omega
  ·omega
theorem aheadC_eq {α : Type} (f : α → ByteArray) (c : ByteArray) : ∀ (m : List α) (k : Nat), k ≤ m.length → (∀ x ∈ m.take k, zLt (f x) c = true) → (∀ x, m[k]? = some x → zLt (f x) c = false) → aheadC f c m = k
 | [], k, h, _, _ => by simp at h; subst h; rfl
 | x :: m, 0, _, _, h2 => by
  have := h2 x rfl
  unfold aheadC
  rw [this]; rfl
 | x :: m, k + 1, h, h1, h2 => by
  have hx := h1 x (by simp)
  unfold aheadC
  rw [if_pos hx, aheadC_eq f c m k (by simpa using h) (fun y hy => h1 y (by simp [hy])) (fun y hy => h2 y (by simpa using hy))]
def insC {α : Type} (f : α → ByteArray) (m : List α) (x : α) : List α := m.take (aheadC f (f x) m) ++ x :: m.drop (aheadC f (f x) m)
def mostS : Int := 65970697666560
def okSu (s : Su) : Bool := decide (s.1 ≤ mostS) && (decide (s.2.1 ≤ mostS) && (decide (s.2.2.1 ≤ mostS) && decide (s.2.2.2 ≤ mostS)))
def addSu (k : ByteArray) (s : Su) (n : Int) : Su :=
 if k = kIn then (s.1 + n, s.2.1, s.2.2.1, s.2.2.2) else if k = kMore then (s.1, s.2.1, s.2.2.1 + n, s.2.2.2) else if k = kOut then (s.1, s.2.1 + n, s.2.2.1, s.2.2.2) else if k = kLess then (s.1, s.2.1, s.2.2.1, s.2.2.2 + n) else s
def heldN (k : ByteArray) (h n : Int) : Int := if k = kHold then h + n else if k = kFree then h - n else h
def stkE (e : En) (m : List Ln) : Nat :=
 match kd e.1 with
 | .tow => putE m e.2.2.2.2.1 e.2.2.1.1 e.2.2.2.2.2
 | .frm => takeE m (e.2.2.2.1, e.2.2.1.1) e.2.2.2.2.2
 | .move => moveE m e.2.2.2.1 e.2.2.2.2.1 e.2.2.1.1 e.2.2.2.2.2
 | _ => 0
def stkL (e : En) (m : List Ln) : List Ln :=
 match kd e.1 with
 | .tow => putL m e.2.2.2.2.1 e.2.2.1.1 e.2.2.2.2.2
 | .frm => takeL m (e.2.2.2.1, e.2.2.1.1) e.2.2.2.2.2
 | .move => moveL m e.2.2.2.1 e.2.2.2.2.1 e.2.2.1.1 e.2.2.2.2.2
 | _ => m
def goodsE (b : Bk) (g : Gd) : Nat := if 0 ≤ findI nameG b.1 g.1 then 7 else if 30 ≤ b.1.length then 8 else 0
def goodsB (b : Bk) (g : Gd) : Bk := (insC nameG b.1 (g, zeroSu), b.2.1, b.2.2)
def lotBE (b : Bk) (l : Lo) : Nat := if 0 ≤ findI nameL b.2.1 l.1 then 7 else if findI nameG b.1 l.2.1 < 0 then 6 else if 60 ≤ b.2.1.length then 8 else 0
def lotB (b : Bk) (l : Lo) : Bk := (b.1, insC nameL b.2.1 (l, 0), b.2.2)
def pieceE (b : Bk) (e : En) (l : Lh) (g : Gs) : Nat :=
 if stkE e b.2.2 = 0 then
  (if heldN e.1 l.2 e.2.2.2.2.2 < 0 ∨ ofL (stkL e b.2.2) e.2.2.1.1 < heldN e.1 l.2 e.2.2.2.2.2 then 9 else if okSu (addSu e.1 g.2 e.2.2.2.2.2) then 0 else 2)
 else stkE e b.2.2
def pieceB (b : Bk) (e : En) (k : Nat) (l : Lh) (i : Nat) (g : Gs) : Bk := (b.1.set i (g.1, addSu e.1 g.2 e.2.2.2.2.2), b.2.1.set k (l.1, heldN e.1 l.2 e.2.2.2.2.2), stkL e b.2.2)
def doB (b : Bk) (e : En) : Bk × Nat :=
 if entErr e = 0 then
  (match kd e.1 with
  | .goods => if goodsE b e.2.1 = 0 then (goodsB b e.2.1, 0) else (b, goodsE b e.2.1)
  | .lot => if lotBE b e.2.2.1 = 0 then (lotB b e.2.2.1, 0) else (b, lotBE b e.2.2.1)
  | _ =>
   match b.2.1.findIdx? (fun l => decide (nameL l = e.2.2.1.1)) with
   | none => (b, 6)
   | some k =>
    match b.2.1[k]? with
    | none => (b, 6)
    | some l =>
     match b.1.findIdx? (fun g => decide (nameG g = l.1.2.1)) with
     | none => (b, 6)
     | some i =>
      match b.1[i]? with
      | none => (b, 6)
      | some g => if pieceE b e l g = 0 then (pieceB b e k l i g, 0) else (b, pieceE b e l g))
 else (b, entErr e)
structure WfB (b : Bk) : Prop where
 gl : b.1.length ≤ 30
 ll : b.2.1.length ≤ 60
 st : Wf b.2.2
 lots : ∀ l ∈ b.2.1, ∃ g ∈ b.1, nameG g = l.1.2.1
 sums : ∀ g ∈ b.1, (0 ≤ g.2.1 ∧ 0 ≤ g.2.2.1 ∧ 0 ≤ g.2.2.2.1 ∧ 0 ≤ g.2.2.2.2) ∧ okSu g.2 = true
 held : ∀ l ∈ b.2.1, 0 ≤ l.2 ∧ l.2 ≤ ofL b.2.2 l.1.1
end Go.Proofs.YtppodkkefegbkaaGreatDoor
