/-
  Plain mathematics of entries: kinds, what an entry lacks, its text, what is read of a text; an entry is read as it was written; no program is named here.
-/
import Derived.Test.YtppodkkefegbkaaGreatDoorJz6
import Derived.Test.YtppodkkefegbkaaGreatDoorJz8
import Derived.Test.YtppodkkefegbkaaGreatDoorJz5
import Derived.Test.YtppodkkefegbkaaGreatDoorJz4
import Derived.Laws.IdiomRangeMap
import Derived.Lib.Builder
import Derived.Lib.SmallJoins
import Derived.Laws.StructEq
import Derived.RegionTactic
import Derived.OwnWalk
set_option maxRecDepth 100000
set_option maxHeartbeats 16000000
namespace Go.Proofs.YtppodkkefegbkaaGreatDoor
open Go.Lib Go.Sort
abbrev Gd := ByteArray × Int
abbrev En := ByteArray × Gd × Lo × Pl × Pl × Int
def zeroG : Gd := (⟨#[]⟩, 0)
def zeroE : En := (⟨#[]⟩, zeroG, zeroL, zeroP, zeroP, 0)
abbrev kGoods : ByteArray := ⟨#[103, 111, 111, 100, 115]⟩
abbrev kLot : ByteArray := ⟨#[108, 111, 116]⟩
abbrev kIn : ByteArray := ⟨#[105, 110]⟩
abbrev kMore : ByteArray := ⟨#[109, 111, 114, 101]⟩
abbrev kOut : ByteArray := ⟨#[111, 117, 116]⟩
abbrev kLess : ByteArray := ⟨#[108, 101, 115, 115]⟩
abbrev kMove : ByteArray := ⟨#[109, 111, 118, 101]⟩
abbrev kHold : ByteArray := ⟨#[104, 111, 108, 100]⟩
abbrev kFree : ByteArray := ⟨#[102, 114, 101, 101]⟩
inductive Kd where
  | goods | lot | tow | frm | move | hold | other
def kd (k : ByteArray) : Kd :=
  if k = kGoods then .goods else if k = kLot then .lot else if k = kIn ∨ k = kMore then .tow else if k = kOut ∨ k = kLess then .frm else if k = kMove then .move else if k = kHold ∨ k = kFree then .hold else .other
structure NoKind (k : ByteArray) : Prop where
  goods : k ≠ kGoods
  lot : k ≠ kLot
  in_ : k ≠ kIn
  more : k ≠ kMore
  out : k ≠ kOut
  less : k ≠ kLess
  move : k ≠ kMove
  hold : k ≠ kHold
  free : k ≠ kFree
theorem kind_cases (k : ByteArray) : k = kGoods ∨ k = kLot ∨ (k = kIn ∨ k = kMore) ∨ (k = kOut ∨ k = kLess) ∨ k = kMove ∨ (k = kHold ∨ k = kFree) ∨ NoKind k := by
  by_cases h1 : k = kGoods
  · exact Or.inl h1
  by_cases h2 : k = kLot
  · exact Or.inr (Or.inl h2)
  by_cases h3 : k = kIn
  · exact Or.inr (Or.inr (Or.inl (Or.inl h3)))
  by_cases h4 : k = kMore
  · exact Or.inr (Or.inr (Or.inl (Or.inr h4)))
  by_cases h5 : k = kOut
  · exact Or.inr (Or.inr (Or.inr (Or.inl (Or.inl h5))))
  by_cases h6 : k = kLess
  · exact Or.inr (Or.inr (Or.inr (Or.inl (Or.inr h6))))
  by_cases h7 : k = kMove
  · exact Or.inr (Or.inr (Or.inr (Or.inr (Or.inl h7))))
  by_cases h8 : k = kHold
  · exact Or.inr (Or.inr (Or.inr (Or.inr (Or.inr (Or.inl (Or.inl h8))))))
  by_cases h9 : k = kFree
  · exact Or.inr (Or.inr (Or.inr (Or.inr (Or.inr (Or.inl (Or.inr h9))))))
  · exact Or.inr (Or.inr (Or.inr (Or.inr (Or.inr (Or.inr ⟨h1, h2, h3, h4, h5, h6, h7, h8, h9⟩)))))
theorem kd_goods : kd kGoods = .goods := rfl
theorem kd_lot : kd kLot = .lot := rfl
theorem kd_in : kd kIn = .tow := rfl
theorem kd_more : kd kMore = .tow := rfl
theorem kd_out : kd kOut = .frm := rfl
theorem kd_less : kd kLess = .frm := rfl
theorem kd_move : kd kMove = .move := rfl
theorem kd_hold : kd kHold = .hold := rfl
theorem kd_free : kd kFree = .hold := rfl
theorem NoKind.kd {k : ByteArray} (h : NoKind k) : kd k = .other := by
  unfold Go.Proofs.YtppodkkefegbkaaGreatDoor.kd
  rw [if_neg h.goods, if_neg h.lot, if_neg (fun e => e.elim h.in_ h.more), if_neg (fun e => e.elim h.out h.less), if_neg h.move, if_neg (fun e => e.elim h.hold h.free)]
def isKd (k : ByteArray) : Bool :=
  match kd k with
  | .other => false
  | _ => true
def kFrom : Kd → Bool
  | .frm => true
  | .move => true
  | _ => false
def kTo : Kd → Bool
  | .tow => true
  | .move => true
  | _ => false
def gdErr (g : Gd) : Nat := if isName g.1.data.toList then (if pw g.2 then 0 else 2) else 5
theorem gdErr_le (g : Gd) : gdErr g ≤ 12 := by unfold gdErr; repeat' split
                                               all_goals omega
def fromErr (c : Kd) (p : Pl) : Nat := if kFrom c then placeErr p else 0
def toErr (c : Kd) (p : Pl) : Nat := if kTo c then placeErr p else 0
def decMv : (c : Kd) → (p q : Pl) → Decidable (c = .move ∧ p = q)
  | .move, p, q => if h : p = q then .isTrue ⟨rfl, h⟩ else .isFalse fun e => h e.2
  | .goods, _, _ => .isFalse fun e => nomatch e.1
  | .lot, _, _ => .isFalse fun e => nomatch e.1
  | .tow, _, _ => .isFalse fun e => nomatch e.1
  | .frm, _, _ => .isFalse fun e => nomatch e.1
  | .hold, _, _ => .isFalse fun e => nomatch e.1
  | .other, _, _ => .isFalse fun e => nomatch e.1
def numErr (c : Kd) (p q : Pl) (n : Int) : Nat := if numW n then @ite Nat (c = .move ∧ p = q) (decMv c p q) 3 0 else 2
def pieceErr (c : Kd) (e : En) : Nat :=
  if isName e.2.2.1.1.data.toList then
    (if fromErr c e.2.2.2.1 = 0 then (if toErr c e.2.2.2.2.1 = 0 then numErr c e.2.2.2.1 e.2.2.2.2.1 e.2.2.2.2.2 else toErr c e.2.2.2.2.1) else fromErr c e.2.2.2.1)
  else 5
def ownErr (e : En) : Nat :=
  match kd e.1 with
  | .goods => gdErr e.2.1
  | .lot => lotErr e.2.2.1
  | .other => 4
  | c => pieceErr c e
def othersC (c : Kd) (e : En) : En :=
  match c with
  | .goods => (⟨#[]⟩, zeroG, e.2.2.1, e.2.2.2.1, e.2.2.2.2.1, e.2.2.2.2.2)
  | .lot => (⟨#[]⟩, e.2.1, zeroL, e.2.2.2.1, e.2.2.2.2.1, e.2.2.2.2.2)
  | c => (⟨#[]⟩, e.2.1, (⟨#[]⟩, e.2.2.1.2), (if kFrom c then zeroP else e.2.2.2.1), (if kTo c then zeroP else e.2.2.2.2.1), 0)
def othersE (e : En) : En := othersC (kd e.1) e
def sameE (x y : En) : Bool := decide (x.1 = y.1) && (decide (x.2.1 = y.2.1) && (decide (x.2.2.1 = y.2.2.1) && (decide (x.2.2.2.1 = y.2.2.2.1) && (decide (x.2.2.2.2.1 = y.2.2.2.2.1) && decide (x.2.2.2.2.2 = y.2.2.2.2.2)))))
theorem sameE_iff {x y : En} : sameE x y = true ↔ x = y := by
  unfold sameE
  simp only [decide_eq_true_eq, Bool.and_eq_true]
  constructor
  · rintro ⟨h1, h2, h3, h4, h5, h6⟩
    exact Prod.ext h1 (Prod.ext h2 (Prod.ext h3 (Prod.ext h4 (Prod.ext h5 h6))))
  · rintro rfl; simp
def entErr (e : En) : Nat := if ownErr e = 0 then (if sameE (othersE e) zeroE = true then 0 else 3) else ownErr e
theorem pieceErr_le (c : Kd) (e : En) : pieceErr c e ≤ 12 := by
  unfold pieceErr fromErr toErr numErr
  have h1 := placeErr_le e.2.2.2.1
  have h2 := placeErr_le e.2.2.2.2.1
  repeat' split
  all_goals omega
theorem ownErr_le (e : En) : ownErr e ≤ 12 := by
  unfold ownErr
  have h1 := gdErr_le e.2.1
  have h2 : lotErr e.2.2.1 ≤ 12 := by unfold lotErr; repeat' split
                                      all_goals omega
  split
  · exact h1
  · exact h2
  · omega
  · exact pieceErr_le _ _
theorem entErr_le (e : En) : entErr e ≤ 12 := by
  unfold entErr
  have := ownErr_le e
  repeat' split
  all_goals omega
theorem entErr_own {e : En} (h : entErr e = 0) : ownErr e = 0 ∧ othersE e = zeroE := by
  unfold entErr at h
  by_cases h1 : ownErr e = 0
  · rw [if_pos h1] at h
    by_cases h2 : sameE (othersE e) zeroE = true
    · exact ⟨h1, sameE_iff.1 h2⟩
    · rw [if_neg h2] at h; omega
  · rw [if_neg h1] at h; exact absurd h h1
theorem pieceErr_zero {c : Kd} {e : En} (h : pieceErr c e = 0) : isName e.2.2.1.1.data.toList = true ∧ fromErr c e.2.2.2.1 = 0 ∧ toErr c e.2.2.2.2.1 = 0 ∧ 1 ≤ e.2.2.2.2.2 ∧ e.2.2.2.2.2 ≤ 1099511627776 := by
  unfold pieceErr at h
  by_cases h1 : isName e.2.2.1.1.data.toList = true
  · rw [if_pos h1] at h
    by_cases h2 : fromErr c e.2.2.2.1 = 0
    · rw [if_pos h2] at h
      by_cases h3 : toErr c e.2.2.2.2.1 = 0
      · rw [if_pos h3] at h
        unfold numErr at h
        by_cases h4 : numW e.2.2.2.2.2 = true
        · exact ⟨h1, h2, h3, (numW_iff _).1 h4⟩
        · rw [if_neg h4] at h; omega
      · rw [if_neg h3] at h; exact absurd h h3
    · rw [if_neg h2] at h; exact absurd h h2
  · rw [if_neg h1] at h; omega
abbrev Su := Int × Int × Int × Int
abbrev Gs := Gd × Su
abbrev Lh := Lo × Int
abbrev Bk := List Gs × List Lh × List Ln
def zeroSu : Su := (0, 0, 0, 0)
def findI {α : Type} (f : α → ByteArray) (m : List α) (c : ByteArray) : Int := match m.findIdx? (fun x => decide (f x = c)) with | some i => (i : Int) | none => -1
theorem findI_none {α : Type} {f : α → ByteArray} {m : List α} {c : ByteArray} (h : ∀ x ∈ m, f x ≠ c) : findI f m c = -1 := by
  unfold findI
  rw [List.findIdx?_eq_none_iff.2 (fun l hl => by simpa using h l hl)]
theorem findI_at {α : Type} {f : α → ByteArray} {m : List α} {c : ByteArray} {i : Nat} {x : α} (hx : m[i]? = some x) (hc : f x = c) (hno : ∀ y ∈ m.take i, f y ≠ c) : findI f m c = i := by
  obtain ⟨hi, e⟩ := List.getElem?_eq_some_iff.1 hx
  unfold findI
  rw [List.findIdx?_eq_some_iff_getElem.2 ⟨hi, by rw [e]; simpa using hc, fun j hj => by
    have := hno m[j] (List.mem_take_iff_getElem.2 ⟨j, by omega, rfl⟩)
    simpa using this⟩]
theorem findI_cases {α : Type} (f : α → ByteArray) (m : List α) (c : ByteArray) : (findI f m c = -1 ∧ ∀ x ∈ m, f x ≠ c) ∨ ∃ (i : Nat) (x : α), findI f m c = i ∧ m[i]? = some x ∧ f x = c := by
  unfold findI
  cases h : m.findIdx? (fun x => decide (f x = c)) with
  | none => exact Or.inl ⟨rfl, fun l hl => by simpa using List.findIdx?_eq_none_iff.1 h l hl⟩
  | some i =>
    obtain ⟨hi, h1, _⟩ := List.findIdx?_eq_some_iff_getElem.1 h
    exact Or.inr ⟨i, m[i], rfl, List.getElem?_eq_getElem hi, by simpa using h1⟩
theorem takeI_next {α : Type} {m : List α} {k : Nat} {x : α} {P : α → Prop} (hl : m[k]? = some x) (h : ∀ y ∈ m.take k, P y) (h1 : P x) : ∀ y ∈ m.take (k + 1), P y := by
  obtain ⟨hk, e⟩ := List.getElem?_eq_some_iff.1 hl
  rw [List.take_succ_eq_append_getElem hk, e]
  intro y hy
  rcases List.mem_append.1 hy with hy | hy
  · exact h y hy
  · obtain rfl : y = x := by simpa using hy
    exact h1
def nameG (g : Gs) : ByteArray := g.1.1
def nameL (l : Lh) : ByteArray := l.1.1
def aheadC {α : Type} (f : α → ByteArray) (c : ByteArray) : List α → Nat
  | [] => 0
  | x :: m => if zLt (f x) c then aheadC f c m + 1 else 0
theorem aheadC_le {α : Type} (f : α → ByteArray) (c : ByteArray) : ∀ m : List α, aheadC f c m ≤ m.length
  | [] => Nat.le_refl _
  | x :: m => by
    unfold aheadC
    have := aheadC_le f c m
    split
    · simp; omega
    · omega
theorem aheadC_eq {α : Type} (f : α → ByteArray) (c : ByteArray) : ∀ (m : List α) (k : Nat), k ≤ m.length → (∀ x ∈ m.take k, zLt (f x) c = true) → (∀ x, m[k]? = some x → zLt (f x) c = false) → aheadC f c m = k
  | [], k, h, _, _ => by simp at h; subst h; rfl
  | x :: m, 0, _, _, h2 => by
    have := h2 x rfl
    unfold aheadC
    rw [this]; rfl
  | x :: m, k + 1, h, h1, h2 => by
    have hx := h1 x (by simp)
    unfold aheadC
    rw [if_pos hx, aheadC_eq f c m k (by simpa using h) (fun y hy => h1 y (by simp [hy])) (fun y hy => h2 y (by simpa using hy))]
def insC {α : Type} (f : α → ByteArray) (m : List α) (x : α) : List α := m.take (aheadC f (f x) m) ++ x :: m.drop (aheadC f (f x) m)
def mostS : Int := 65970697666560
def okSu (s : Su) : Bool := decide (s.1 ≤ mostS) && (decide (s.2.1 ≤ mostS) && (decide (s.2.2.1 ≤ mostS) && decide (s.2.2.2 ≤ mostS)))
def addSu (k : ByteArray) (s : Su) (n : Int) : Su :=
  if k = kIn then (s.1 + n, s.2.1, s.2.2.1, s.2.2.2) else if k = kMore then (s.1, s.2.1, s.2.2.1 + n, s.2.2.2) else if k = kOut then (s.1, s.2.1 + n, s.2.2.1, s.2.2.2) else if k = kLess then (s.1, s.2.1, s.2.2.1, s.2.2.2 + n) else s
def heldN (k : ByteArray) (h n : Int) : Int := if k = kHold then h + n else if k = kFree then h - n else h
def stkE (e : En) (m : List Ln) : Nat :=
  match kd e.1 with
  | .tow => putE m e.2.2.2.2.1 e.2.2.1.1 e.2.2.2.2.2
  | .frm => takeE m (e.2.2.2.1, e.2.2.1.1) e.2.2.2.2.2
  | .move => moveE m e.2.2.2.1 e.2.2.2.2.1 e.2.2.1.1 e.2.2.2.2.2
  | _ => 0
def stkL (e : En) (m : List Ln) : List Ln :=
  match kd e.1 with
  | .tow => putL m e.2.2.2.2.1 e.2.2.1.1 e.2.2.2.2.2
  | .frm => takeL m (e.2.2.2.1, e.2.2.1.1) e.2.2.2.2.2
  | .move => moveL m e.2.2.2.1 e.2.2.2.2.1 e.2.2.1.1 e.2.2.2.2.2
  | _ => m
def goodsE (b : Bk) (g : Gd) : Nat := if 0 ≤ findI nameG b.1 g.1 then 7 else if 30 ≤ b.1.length then 8 else 0
def goodsB (b : Bk) (g : Gd) : Bk := (insC nameG b.1 (g, zeroSu), b.2.1, b.2.2)
def lotBE (b : Bk) (l : Lo) : Nat := if 0 ≤ findI nameL b.2.1 l.1 then 7 else if findI nameG b.1 l.2.1 < 0 then 6 else if 60 ≤ b.2.1.length then 8 else 0
def lotB (b : Bk) (l : Lo) : Bk := (b.1, insC nameL b.2.1 (l, 0), b.2.2)
def pieceE (b : Bk) (e : En) (l : Lh) (g : Gs) : Nat :=
  if stkE e b.2.2 = 0 then
    (if heldN e.1 l.2 e.2.2.2.2.2 < 0 ∨ ofL (stkL e b.2.2) e.2.2.1.1 < heldN e.1 l.2 e.2.2.2.2.2 then 9 else if okSu (addSu e.1 g.2 e.2.2.2.2.2) then 0 else 2)
  else stkE e b.2.2
def pieceB (b : Bk) (e : En) (k : Nat) (l : Lh) (i : Nat) (g : Gs) : Bk := (b.1.set i (g.1, addSu e.1 g.2 e.2.2.2.2.2), b.2.1.set k (l.1, heldN e.1 l.2 e.2.2.2.2.2), stkL e b.2.2)
def doB (b : Bk) (e : En) : Bk × Nat :=
  if entErr e = 0 then
    (match kd e.1 with
    | .goods => if goodsE b e.2.1 = 0 then (goodsB b e.2.1, 0) else (b, goodsE b e.2.1)
    | .lot => if lotBE b e.2.2.1 = 0 then (lotB b e.2.2.1, 0) else (b, lotBE b e.2.2.1)
    | _ =>
      match b.2.1.findIdx? (fun l => decide (nameL l = e.2.2.1.1)) with
      | none => (b, 6)
      | some k =>
        match b.2.1[k]? with
        | none => (b, 6)
        | some l =>
          match b.1.findIdx? (fun g => decide (nameG g = l.1.2.1)) with
          | none => (b, 6)
          | some i =>
            match b.1[i]? with
            | none => (b, 6)
            | some g => if pieceE b e l g = 0 then (pieceB b e k l i g, 0) else (b, pieceE b e l g))
  else (b, entErr e)
structure WfB (b : Bk) : Prop where
  gl : b.1.length ≤ 30
  ll : b.2.1.length ≤ 60
  st : Wf b.2.2
  lots : ∀ l ∈ b.2.1, ∃ g ∈ b.1, nameG g = l.1.2.1
  sums : ∀ g ∈ b.1, (0 ≤ g.2.1 ∧ 0 ≤ g.2.2.1 ∧ 0 ≤ g.2.2.2.1 ∧ 0 ≤ g.2.2.2.2) ∧ okSu g.2 = true
  held : ∀ l ∈ b.2.1, 0 ≤ l.2 ∧ l.2 ≤ ofL b.2.2 l.1.1
theorem first_or (f : Nat → Nat) : ∀ n, (∀ j, j < n → f j = 0) ∨ ∃ k, k < n ∧ (∀ j, j < k → f j = 0) ∧ f k ≠ 0
  | 0 => Or.inl fun j hj => absurd hj (Nat.not_lt_zero _)
  | n + 1 => by
    rcases first_or f n with h | ⟨k, hk, h1, h2⟩
    · by_cases h9 : f n = 0
      · exact Or.inl fun j hj => by
          rcases Nat.lt_or_ge j n with q | q
          · exact h j q
          · obtain rfl : j = n := by omega
            exact h9
      · exact Or.inr ⟨n, Nat.lt_succ_self _, h, h9⟩
    · exact Or.inr ⟨k, by omega, h1, h2⟩
theorem first_same {f : Nat → Nat} {k k' : Nat} (h1 : ∀ j, j < k → f j = 0) (h2 : f k ≠ 0) (h1' : ∀ j, j < k' → f j = 0) (h2' : f k' ≠ 0) : k = k' := by
  rcases Nat.lt_trichotomy k k' with h | h | h
  · exact absurd (h1' k h) h2
  · exact h
  · exact absurd (h1 k' h) h2'
def ownS (x : Ln) : Nat := if placeErr x.1 = 0 then (if isName x.2.1.data.toList then (if x.2.2 < 0 ∨ 1099511627776 < x.2.2 then 2 else 0) else 5) else placeErr x.1
def standsS (l : List Ln) (x : Ln) : Bool := l.any fun y => decide (y.1 = x.1 ∧ y.2.1 = x.2.1)
def sheetE (l : List Ln) (i : Nat) : Nat := match l[i]? with
  | some x => if ownS x = 0 then (if standsS (l.take i) x then 7 else 0) else ownS x
  | none => 0
theorem sheetE_eq {l : List Ln} {i : Nat} {x : Ln} (h : l[i]? = some x) : sheetE l i = if ownS x = 0 then (if standsS (l.take i) x then 7 else 0) else ownS x := by
  unfold sheetE
  rw [h]
theorem standsS_succ {l : List Ln} {k : Nat} {y : Ln} (h : l[k]? = some y) (x : Ln) : standsS (l.take (k + 1)) x = (standsS (l.take k) x || decide (y.1 = x.1 ∧ y.2.1 = x.2.1)) := by
  unfold standsS
  rw [List.take_add_one, h, List.any_append]
  simp
theorem placeErr_five (x : Pl) : placeErr x ≤ 5 := by unfold placeErr; split <;> (try split) <;> decide
theorem ownS_le (x : Ln) : ownS x ≤ 5 := by
  unfold ownS
  have := placeErr_five x.1
  repeat' split
  all_goals omega
theorem sheetE_le (l : List Ln) (i : Nat) : sheetE l i ≤ 12 := by
  unfold sheetE
  split
  · rename_i x _
    have := ownS_le x
    repeat' split
    all_goals omega
  · omega
def noneS (b : Bk) (l : List Ln) (i : Nat) : Nat := match l[i]? with
  | some x => if findI nameL b.2.1 x.2.1 < 0 then 6 else 0
  | none => 0
theorem noneS_eq {b : Bk} {l : List Ln} {i : Nat} {x : Ln} (h : l[i]? = some x) : noneS b l i = if findI nameL b.2.1 x.2.1 < 0 then 6 else 0 := by
  unfold noneS
  rw [h]
def moreEn (x : Ln) (n : Int) : En := (kMore, (⟨#[]⟩, 0), (x.2.1, ⟨#[]⟩, 0, 0), (⟨#[]⟩, 0, 0), x.1, n)
def lessEn (x : Ln) (n : Int) : En := (kLess, (⟨#[]⟩, 0), (x.2.1, ⟨#[]⟩, 0, 0), x.1, (⟨#[]⟩, 0, 0), n)
def diffOne (m : List Ln) (x : Ln) : List En := if atL m (x.1, x.2.1) < x.2.2 then [moreEn x (x.2.2 - atL m (x.1, x.2.1))] else if x.2.2 < atL m (x.1, x.2.1) then [lessEn x (atL m (x.1, x.2.1) - x.2.2)] else []
def diffL (m : List Ln) (l : List Ln) : List En := l.flatMap (diffOne m)
theorem diffL_succ {m l : List Ln} {k : Nat} {x : Ln} (h : l[k]? = some x) : diffL m (l.take (k + 1)) = diffL m (l.take k) ++ diffOne m x := by
  unfold diffL
  rw [List.take_add_one, h, List.flatMap_append]
  simp
theorem diffOne_len (m : List Ln) (x : Ln) : (diffOne m x).length ≤ 1 := by
  unfold diffOne
  repeat' split
  all_goals simp
theorem diffL_len (m : List Ln) : ∀ l : List Ln, (diffL m l).length ≤ l.length
  | [] => Nat.le_refl _
  | x :: l => by
    have h1 := diffOne_len m x
    have h2 := diffL_len m l
    unfold diffL at *
    rw [List.flatMap_cons, List.length_append, List.length_cons]
    omega
def outG (g : Gs) : Int := g.2.2.1
def outsG (m : List Gs) : Int := (m.map outG).sum
theorem outsG_succ {m : List Gs} {k : Nat} {g : Gs} (h : m[k]? = some g) : outsG (m.take (k + 1)) = outsG (m.take k) + outG g := by
  unfold outsG
  rw [List.take_add_one, h]
  simp
def rankG (n : Int) (i : Nat) (k : Nat) (g : Gs) : Bool := decide (n < outG g) || (decide (outG g = n) && decide (k < i))
def frontG (m : List Gs) (n : Int) (i : Nat) : Nat → Int
  | 0 => 0
  | k + 1 => match m[k]? with
    | some g => if rankG n i k g then frontG m n i k + outG g else frontG m n i k
    | none => frontG m n i k
theorem frontG_succ {m : List Gs} {n : Int} {i k : Nat} {g : Gs} (h : m[k]? = some g) : frontG m n i (k + 1) = if rankG n i k g then frontG m n i k + outG g else frontG m n i k := by
  show (match m[k]? with | some g => _ | none => _) = _
  rw [h]
abbrev clA : ByteArray := ⟨#[97]⟩
abbrev clB : ByteArray := ⟨#[98]⟩
abbrev clC : ByteArray := ⟨#[99]⟩
def classG (all ahead : Int) : ByteArray := if 0 < all ∧ 100 * ahead < 80 * all then clA else if 0 < all ∧ 100 * ahead < 95 * all then clB else clC
def classAt (m : List Gs) (i : Nat) (g : Gs) : ByteArray := classG (outsG m) (frontG m (outG g) i m.length)
def classesG (m : List Gs) : Nat → List ByteArray
  | 0 => []
  | i + 1 => match m[i]? with
    | some g => classesG m i ++ [classAt m i g]
    | none => classesG m i
theorem classesG_succ {m : List Gs} {i : Nat} {g : Gs} (h : m[i]? = some g) : classesG m (i + 1) = classesG m i ++ [classAt m i g] := by
  show (match m[i]? with | some g => _ | none => _) = _
  rw [h]
theorem classesG_len (m : List Gs) : ∀ {i : Nat}, i ≤ m.length → (classesG m i).length = i
  | 0, _ => rfl
  | i + 1, h => by
    obtain ⟨g, hg⟩ : ∃ g, m[i]? = some g := ⟨_, List.getElem?_eq_getElem h⟩
    rw [classesG_succ hg, List.length_append, classesG_len m (Nat.le_of_succ_le h)]
    rfl
def OutOk (m : List Gs) : Prop := ∀ g ∈ m, 0 ≤ outG g ∧ outG g ≤ 65970697666560
theorem OutOk.take {m : List Gs} (h : OutOk m) (k : Nat) : OutOk (m.take k) := fun g hg => h g (List.mem_of_mem_take hg)
theorem outsG_bound : ∀ {m : List Gs}, OutOk m → 0 ≤ outsG m ∧ outsG m ≤ 65970697666560 * (m.length : Int)
  | [], _ => by unfold outsG; simp
  | g :: m, h => by
    obtain ⟨h1, h2⟩ := outsG_bound (m := m) fun x hx => h x (List.mem_cons_of_mem _ hx)
    obtain ⟨h3, h4⟩ := h g (List.mem_cons_self ..)
    unfold outsG at *
    rw [List.map_cons, List.sum_cons, List.length_cons]
    omega
theorem frontG_bound {m : List Gs} (h : OutOk m) (n : Int) (i : Nat) : ∀ k, 0 ≤ frontG m n i k ∧ frontG m n i k ≤ 65970697666560 * (k : Int)
  | 0 => by unfold frontG; omega
  | k + 1 => by
    have ih := frontG_bound h n i k
    cases hg : m[k]? with
    | none =>
      have e : frontG m n i (k + 1) = frontG m n i k := by
        show (match m[k]? with | some g => _ | none => _) = _
        rw [hg]
      rw [e]; omega
    | some g =>
      rw [frontG_succ hg]
      obtain ⟨h3, h4⟩ := h g (List.mem_of_getElem? hg)
      split <;> omega
def daysC (c : ByteArray) : Int := if c = clA then 30 else if c = clB then 90 else if c = clC then 180 else -1
def dueC (c : ByteArray) (last day : Int) : Bool := if daysC c < 0 ∨ day < last then false else decide (last ≤ IntKind.i64.wrap (day - daysC c)) && decide (IntKind.i64.wrap (day - daysC c) ≤ day)
theorem findI_idx {α : Type} {f : α → ByteArray} {m : List α} {c : ByteArray} {k : Nat} (h : findI f m c = (k : Int)) : m.findIdx? (fun x => decide (f x = c)) = some k := by
  unfold findI at h
  cases hh : m.findIdx? (fun x => decide (f x = c)) with
  | none => rw [hh] at h; simp only at h; omega
  | some j => rw [hh] at h; simp only at h; congr 1; omega
theorem findI_no {α : Type} {f : α → ByteArray} {m : List α} {c : ByteArray} (h : findI f m c < 0) : m.findIdx? (fun x => decide (f x = c)) = none := by
  unfold findI at h
  cases hh : m.findIdx? (fun x => decide (f x = c)) with
  | none => rfl
  | some j => rw [hh] at h; simp only at h; omega
theorem doB_err {b : Bk} {e : En} (he : entErr e ≠ 0) : doB b e = (b, entErr e) := by unfold doB; rw [if_neg he]
theorem doB_goods {b : Bk} {e : En} (he : entErr e = 0) (hk : e.1 = kGoods) : doB b e = if goodsE b e.2.1 = 0 then (goodsB b e.2.1, 0) else (b, goodsE b e.2.1) := by unfold doB; rw [if_pos he, hk, kd_goods]
theorem doB_lot {b : Bk} {e : En} (he : entErr e = 0) (hk : e.1 = kLot) : doB b e = if lotBE b e.2.2.1 = 0 then (lotB b e.2.2.1, 0) else (b, lotBE b e.2.2.1) := by unfold doB; rw [if_pos he, hk, kd_lot]
theorem piece_kind {k : ByteArray} (h1 : k ≠ kGoods) (h2 : k ≠ kLot) : kd k ≠ .goods ∧ kd k ≠ .lot := by
  rcases kind_cases k with h | h | (h | h) | (h | h) | h | (h | h) | h
  · exact absurd h h1
  · exact absurd h h2
  · rw [h]; exact ⟨by nofun, by nofun⟩
  · rw [h]; exact ⟨by nofun, by nofun⟩
  · rw [h]; exact ⟨by nofun, by nofun⟩
  · rw [h]; exact ⟨by nofun, by nofun⟩
  · rw [h]; exact ⟨by nofun, by nofun⟩
  · rw [h]; exact ⟨by nofun, by nofun⟩
  · rw [h]; exact ⟨by nofun, by nofun⟩
  · rw [h.kd]; exact ⟨by nofun, by nofun⟩
theorem doB_none {b : Bk} {e : En} (he : entErr e = 0) (h1 : e.1 ≠ kGoods) (h2 : e.1 ≠ kLot) (h : findI nameL b.2.1 e.2.2.1.1 < 0) : doB b e = (b, 6) := by
  obtain ⟨n1, n2⟩ := piece_kind h1 h2
  unfold doB
  rw [if_pos he]
  cases hd : kd e.1 with
  | goods => exact absurd hd n1
  | lot => exact absurd hd n2
  | _ => simp only [findI_no h]
theorem doB_at {b : Bk} {e : En} {k i : Nat} {l : Lh} {g : Gs} (he : entErr e = 0) (h1 : e.1 ≠ kGoods) (h2 : e.1 ≠ kLot) (hkL : findI nameL b.2.1 e.2.2.1.1 = (k : Int)) (hl : b.2.1[k]? = some l) (hiG : findI nameG b.1 l.1.2.1 = (i : Int)) (hg : b.1[i]? = some g) : doB b e = if pieceE b e l g = 0 then (pieceB b e k l i g, 0) else (b, pieceE b e l g) := by
  obtain ⟨n1, n2⟩ := piece_kind h1 h2
  unfold doB
  rw [if_pos he]
  cases hd : kd e.1 with
  | goods => exact absurd hd n1
  | lot => exact absurd hd n2
  | _ => simp only [findI_idx hkL, hl, findI_idx hiG, hg]
theorem piece_num {e : En} (he : entErr e = 0) (h1 : e.1 ≠ kGoods) (h2 : e.1 ≠ kLot) : 1 ≤ e.2.2.2.2.2 ∧ e.2.2.2.2.2 ≤ 1099511627776 := by
  have h0 := (entErr_own he).1
  obtain ⟨n1, n2⟩ := piece_kind h1 h2
  unfold ownErr at h0
  cases hd : kd e.1 with
  | goods => exact absurd hd n1
  | lot => exact absurd hd n2
  | other => rw [hd] at h0; simp at h0
  | _ => rw [hd] at h0; exact (pieceErr_zero h0).2.2.2
end Go.Proofs.YtppodkkefegbkaaGreatDoor
namespace Go.Proofs.YtppodkkefegbkaaGreatDoor
open Go.Lib Go.Sort
variable {α : Type}
theorem insC_nil (f : α → ByteArray) (x : α) : insC f [] x = [x] := rfl
theorem insC_cons (f : α → ByteArray) (y : α) (m : List α) (x : α) : insC f (y :: m) x = if zLt (f y) (f x) = true then y :: insC f m x else x :: y :: m := by
  unfold insC
  cases h : zLt (f y) (f x) with
  | true =>
    have e : aheadC f (f x) (y :: m) = aheadC f (f x) m + 1 := by unfold aheadC; rw [if_pos h]; cases m <;> rfl
    rw [e]; simp
  | false =>
    have e : aheadC f (f x) (y :: m) = 0 := by unfold aheadC; rw [if_neg (by rw [h]; decide)]
    rw [e]; simp
theorem insC_mem (f : α → ByteArray) : ∀ (m : List α) (x z : α), z ∈ insC f m x ↔ z = x ∨ z ∈ m
  | [], x, z => by rw [insC_nil]; simp
  | y :: m, x, z => by
    rw [insC_cons]
    split
    · rw [List.mem_cons, insC_mem f m x z, List.mem_cons]
      constructor
      · rintro (h | h | h)
        · exact Or.inr (Or.inl h)
        · exact Or.inl h
        · exact Or.inr (Or.inr h)
      · rintro (h | h | h)
        · exact Or.inr (Or.inl h)
        · exact Or.inl h
        · exact Or.inr (Or.inr h)
    · rw [List.mem_cons]
theorem insC_length (f : α → ByteArray) (m : List α) (x : α) : (insC f m x).length = m.length + 1 := by
  have := aheadC_le f (f x) m
  unfold insC
  rw [List.length_append, List.length_cons, List.length_take, List.length_drop]
  omega
theorem insC_sorted {f : α → ByteArray} : ∀ {m : List α} {x : α}, m.Pairwise (fun a b => zLt (f a) (f b) = true) → (∀ y ∈ m, f y ≠ f x) → (insC f m x).Pairwise (fun a b => zLt (f a) (f b) = true)
  | [], x, _, _ => by rw [insC_nil]; exact List.pairwise_singleton _ _
  | y :: m, x, hs, hn => by
    rw [insC_cons]
    obtain ⟨h1, h2⟩ := List.pairwise_cons.1 hs
    cases h : zLt (f y) (f x) with
    | true =>
      rw [if_pos rfl]
      refine List.pairwise_cons.2 ⟨fun z hz => ?_, insC_sorted h2 fun z hz => hn z (List.mem_cons_of_mem _ hz)⟩
      rcases (insC_mem f m x z).1 hz with rfl | hz
      · exact h
      · exact h1 z hz
    | false =>
      rw [if_neg (by decide)]
      have hxy : zLt (f x) (f y) = true := by
        cases h' : zLt (f x) (f y) with
        | true => rfl
        | false => exact absurd (zLt_total h h') (hn y (List.mem_cons_self ..))
      refine List.pairwise_cons.2 ⟨fun z hz => ?_, hs⟩
      rcases List.mem_cons.1 hz with rfl | hz
      · exact hxy
      · exact zLt_trans hxy (h1 z hz)
theorem findI_neg {f : α → ByteArray} {m : List α} {c : ByteArray} (h : ¬ 0 ≤ findI f m c) : ∀ y ∈ m, f y ≠ c := by
  rcases findI_cases f m c with ⟨_, h'⟩ | ⟨i, x, h', _⟩
  · exact h'
  · omega
theorem findI_mem {f : α → ByteArray} {m : List α} {c : ByteArray} (h : ¬ findI f m c < 0) : ∃ y ∈ m, f y = c := by
  rcases findI_cases f m c with ⟨h', _⟩ | ⟨i, x, _, h1, h2⟩
  · omega
  · exact ⟨x, List.mem_of_getElem? h1, h2⟩
theorem set_map {β : Type} {f : α → β} {m : List α} {i : Nat} {x y : α} (hx : m[i]? = some x) (hf : f y = f x) : (m.set i y).map f = m.map f := by
  apply List.ext_getElem?
  intro j
  rw [List.getElem?_map, List.getElem?_map, List.getElem?_set]
  by_cases hj : i = j
  · subst hj
    have hi := (List.getElem?_eq_some_iff.1 hx).1
    rw [if_pos rfl, if_pos hi, hx]
    simp [hf]
  · rw [if_neg hj]
theorem sorted_map {f : α → ByteArray} {m : List α} : m.Pairwise (fun a b => zLt (f a) (f b) = true) ↔ (m.map f).Pairwise (fun a b => zLt a b = true) := by rw [List.pairwise_map]
theorem set_sorted {f : α → ByteArray} {m : List α} {i : Nat} {x y : α} (hs : m.Pairwise (fun a b => zLt (f a) (f b) = true)) (hx : m[i]? = some x) (hf : f y = f x) : (m.set i y).Pairwise (fun a b => zLt (f a) (f b) = true) := by
  rw [sorted_map, set_map hx hf, ← sorted_map]; exact hs
theorem sorted_ne {f : α → ByteArray} {m : List α} {i j : Nat} {x y : α} (hs : m.Pairwise (fun a b => zLt (f a) (f b) = true)) (hx : m[i]? = some x) (hy : m[j]? = some y) (hij : i ≠ j) : f x ≠ f y := by
  obtain ⟨hi, rfl⟩ := List.getElem?_eq_some_iff.1 hx
  obtain ⟨hj, rfl⟩ := List.getElem?_eq_some_iff.1 hy
  have hp := List.pairwise_iff_getElem.1 hs
  intro e
  rcases Nat.lt_or_ge i j with h | h
  · have := hp i j hi hj h
    rw [e, zLt_irrefl] at this; cases this
  · have := hp j i hj hi (by omega)
    rw [e, zLt_irrefl] at this; cases this
theorem stkL_wf {e : En} {m : List Ln} (h : Wf m) : Wf (stkL e m) := by
  unfold stkL
  cases kd e.1 with
  | tow => exact h.put _ _ _
  | frm => exact h.take _ _
  | move => exact h.move _ _ _ _
  | _ => exact h
theorem stkL_other {e : En} {m : List Ln} (h : Wf m) {c : ByteArray} (hc : c ≠ e.2.2.1.1) : ofL (stkL e m) c = ofL m c := by
  have key : ∀ (x : Pl) (n : Int), ofL (withL m (x, e.2.2.1.1) n) c = ofL m c := fun x n => by
    rw [withL_ofL h.sorted, if_neg (fun e9 => hc e9.symm)]; omega
  unfold stkL
  cases kd e.1 with
  | tow =>
    simp only
    unfold putL
    split
    · exact key _ _
    · rfl
  | frm =>
    simp only
    unfold takeL
    split
    · exact key _ _
    · rfl
  | move =>
    simp only
    unfold moveL
    split
    · rw [withL_ofL (withL_sorted h.sorted _ _), if_neg (fun e9 => hc e9.symm), key]; omega
    · rfl
  | _ => rfl
structure BkOk (b : Bk) : Prop where
  wf : WfB b
  gs : b.1.Pairwise (fun x y => zLt (nameG x) (nameG y) = true)
  ls : b.2.1.Pairwise (fun x y => zLt (nameL x) (nameL y) = true)
theorem BkOk.nil : BkOk ([], [], []) := ⟨⟨by decide, by decide, Wf.nil, by simp, by simp, by simp⟩, List.Pairwise.nil, List.Pairwise.nil⟩
theorem BkOk.goods {b : Bk} (h : BkOk b) {g : Gd} (h0 : goodsE b g = 0) : BkOk (goodsB b g) := by
  have h1 : ¬ 0 ≤ findI nameG b.1 g.1 := fun e => by unfold goodsE at h0; rw [if_pos e] at h0; omega
  have h2 : ¬ 30 ≤ b.1.length := fun e => by unfold goodsE at h0; rw [if_neg h1, if_pos e] at h0; omega
  refine ⟨⟨?_, h.wf.ll, h.wf.st, ?_, ?_, h.wf.held⟩, insC_sorted h.gs (findI_neg h1), h.ls⟩
  · show (insC nameG b.1 (g, zeroSu)).length ≤ 30
    rw [insC_length]; omega
  · intro l hl
    obtain ⟨x, hx, e⟩ := h.wf.lots l hl
    exact ⟨x, (insC_mem _ _ _ _).2 (Or.inr hx), e⟩
  · intro x hx
    rcases (insC_mem nameG b.1 (g, zeroSu) x).1 hx with rfl | hx
    · exact ⟨⟨Int.le_refl 0, Int.le_refl 0, Int.le_refl 0, Int.le_refl 0⟩, (by decide : okSu zeroSu = true)⟩
    · exact h.wf.sums x hx
theorem BkOk.lot {b : Bk} (h : BkOk b) {l : Lo} (h0 : lotBE b l = 0) : BkOk (lotB b l) := by
  have h1 : ¬ 0 ≤ findI nameL b.2.1 l.1 := fun e => by unfold lotBE at h0; rw [if_pos e] at h0; omega
  have h2 : ¬ findI nameG b.1 l.2.1 < 0 := fun e => by unfold lotBE at h0; rw [if_neg h1, if_pos e] at h0; omega
  have h3 : ¬ 60 ≤ b.2.1.length := fun e => by unfold lotBE at h0; rw [if_neg h1, if_neg h2, if_pos e] at h0; omega
  refine ⟨⟨h.wf.gl, ?_, h.wf.st, ?_, h.wf.sums, ?_⟩, h.gs, insC_sorted h.ls (findI_neg h1)⟩
  · show (insC nameL b.2.1 (l, 0)).length ≤ 60
    rw [insC_length]; omega
  · intro x hx
    rcases (insC_mem nameL b.2.1 (l, 0) x).1 hx with rfl | hx
    · exact findI_mem h2
    · exact h.wf.lots x hx
  · intro x hx
    rcases (insC_mem nameL b.2.1 (l, 0) x).1 hx with rfl | hx
    · exact ⟨Int.le_refl _, (h.wf.st.of_bound _).1⟩
    · exact h.wf.held x hx
theorem addSu_pos {k : ByteArray} {s : Su} {n : Int} (hn : 0 ≤ n) (h : 0 ≤ s.1 ∧ 0 ≤ s.2.1 ∧ 0 ≤ s.2.2.1 ∧ 0 ≤ s.2.2.2) : 0 ≤ (addSu k s n).1 ∧ 0 ≤ (addSu k s n).2.1 ∧ 0 ≤ (addSu k s n).2.2.1 ∧ 0 ≤ (addSu k s n).2.2.2 := by
  obtain ⟨h1, h2, h3, h4⟩ := h
  unfold addSu
  repeat' split
  all_goals
    refine ⟨?_, ?_, ?_, ?_⟩
    all_goals
      (try simp only)
      omega
theorem BkOk.piece {b : Bk} (h : BkOk b) {e : En} {k i : Nat} {l : Lh} {g : Gs} (hn : 0 ≤ e.2.2.2.2.2) (hl : b.2.1[k]? = some l) (hid : nameL l = e.2.2.1.1) (hg : b.1[i]? = some g) (h0 : pieceE b e l g = 0) : BkOk (pieceB b e k l i g) := by
  unfold pieceE at h0
  by_cases c0 : stkE e b.2.2 = 0
  · rw [if_pos c0] at h0
    by_cases c1 : heldN e.1 l.2 e.2.2.2.2.2 < 0 ∨ ofL (stkL e b.2.2) e.2.2.1.1 < heldN e.1 l.2 e.2.2.2.2.2
    · rw [if_pos c1] at h0; omega
    · rw [if_neg c1] at h0
      cases c2 : okSu (addSu e.1 g.2 e.2.2.2.2.2) with
      | false => rw [c2] at h0; simp at h0
      | true =>
        unfold pieceB
        have mG : (b.1.set i (g.1, addSu e.1 g.2 e.2.2.2.2.2)).map nameG = b.1.map nameG := set_map hg rfl
        refine ⟨⟨?_, ?_, stkL_wf h.wf.st, ?_, ?_, ?_⟩, set_sorted h.gs hg rfl, set_sorted h.ls hl rfl⟩
        · show (b.1.set i _).length ≤ 30
          rw [List.length_set]; exact h.wf.gl
        · show (b.2.1.set k _).length ≤ 60
          rw [List.length_set]; exact h.wf.ll
        · intro x hx
          have hc : ∃ y ∈ b.1, nameG y = x.1.2.1 := by
            rcases List.mem_or_eq_of_mem_set hx with hx | hx
            · exact h.wf.lots x hx
            · rw [hx]; exact h.wf.lots l (List.mem_of_getElem? hl)
          obtain ⟨y, hy, e9⟩ := hc
          have : x.1.2.1 ∈ (b.1.set i (g.1, addSu e.1 g.2 e.2.2.2.2.2)).map nameG := by
            rw [mG]; exact List.mem_map.2 ⟨y, hy, e9⟩
          obtain ⟨z, hz, e8⟩ := List.mem_map.1 this
          exact ⟨z, hz, e8⟩
        · intro x hx
          rcases List.mem_or_eq_of_mem_set hx with hx | hx
          · exact h.wf.sums x hx
          · rw [hx]
            exact ⟨addSu_pos hn (h.wf.sums g (List.mem_of_getElem? hg)).1, c2⟩
        · intro x hx
          obtain ⟨j, hj⟩ := List.getElem?_of_mem hx
          simp only at hj ⊢
          rw [List.getElem?_set] at hj
          by_cases hkj : k = j
          · have hk' := (List.getElem?_eq_some_iff.1 hl).1
            rw [if_pos hkj, if_pos (by omega)] at hj
            injection hj with hj
            rw [← hj]
            have : l.1.1 = e.2.2.1.1 := hid
            simp only
            rw [this]
            omega
          · rw [if_neg hkj] at hj
            have hne : x.1.1 ≠ e.2.2.1.1 := by
              have h9 := sorted_ne (f := nameL) h.ls hj hl (fun e9 => hkj e9.symm)
              rw [hid] at h9
              exact h9
            rw [stkL_other h.wf.st hne]
            exact h.wf.held x (List.mem_of_getElem? hj)
  · rw [if_neg c0] at h0; exact absurd h0 c0
end Go.Proofs.YtppodkkefegbkaaGreatDoor
namespace Go.Proofs.YtppodkkefegbkaaGreatDoor
open Go.RowKit Go.Lib Go.Sort
abbrev made (w : World) : World := w.alloc (.cells #[.string ⟨#[]⟩, .int .i64 0, .int .i64 0] 41)
abbrev agE (e : En) : Value := .agg #[.string e.1, .string e.2.1.1, .int .i64 e.2.1.2, .string e.2.2.1.1, .string e.2.2.1.2.1, .int .i64 e.2.2.1.2.2.1, .int .i64 e.2.2.1.2.2.2, .string e.2.2.2.1.1, .int .i64 e.2.2.2.1.2.1, .int .i64 e.2.2.2.1.2.2, .string e.2.2.2.2.1.1, .int .i64 e.2.2.2.2.1.2.1, .int .i64 e.2.2.2.2.1.2.2, .int .i64 e.2.2.2.2.2]
abbrev celE (e : En) : Obj := .cells #[.string e.1, .string e.2.1.1, .int .i64 e.2.1.2, .string e.2.2.1.1, .string e.2.2.1.2.1, .int .i64 e.2.2.1.2.2.1, .int .i64 e.2.2.1.2.2.2, .string e.2.2.2.1.1, .int .i64 e.2.2.2.1.2.1, .int .i64 e.2.2.2.1.2.2, .string e.2.2.2.2.1.1, .int .i64 e.2.2.2.2.1.2.1, .int .i64 e.2.2.2.2.1.2.2, .int .i64 e.2.2.2.2.2] 43
structure EntAt (w : World) (q : Nat) (e : En) : Prop where
  c0 : w.cell? ⟨q, 0, none⟩ = some (.string e.1)
  c1 : w.cell? ⟨q, 1, none⟩ = some (.string e.2.1.1)
  c2 : w.cell? ⟨q, 2, none⟩ = some (.int .i64 e.2.1.2)
  c3 : w.cell? ⟨q, 3, none⟩ = some (.string e.2.2.1.1)
  c4 : w.cell? ⟨q, 4, none⟩ = some (.string e.2.2.1.2.1)
  c5 : w.cell? ⟨q, 5, none⟩ = some (.int .i64 e.2.2.1.2.2.1)
  c6 : w.cell? ⟨q, 6, none⟩ = some (.int .i64 e.2.2.1.2.2.2)
  c7 : w.cell? ⟨q, 7, none⟩ = some (.string e.2.2.2.1.1)
  c8 : w.cell? ⟨q, 8, none⟩ = some (.int .i64 e.2.2.2.1.2.1)
  c9 : w.cell? ⟨q, 9, none⟩ = some (.int .i64 e.2.2.2.1.2.2)
  c10 : w.cell? ⟨q, 10, none⟩ = some (.string e.2.2.2.2.1.1)
  c11 : w.cell? ⟨q, 11, none⟩ = some (.int .i64 e.2.2.2.2.1.2.1)
  c12 : w.cell? ⟨q, 12, none⟩ = some (.int .i64 e.2.2.2.2.1.2.2)
  c13 : w.cell? ⟨q, 13, none⟩ = some (.int .i64 e.2.2.2.2.2)
theorem EntAt.of_block {w w' : World} {q : Nat} {e : En} (h : EntAt w q e) (hb : w'.heap[q]? = w.heap[q]?) : EntAt w' q e where
  c0 := (World.cell?_of_block (a := ⟨q, 0, none⟩) hb).trans h.c0
  c1 := (World.cell?_of_block (a := ⟨q, 1, none⟩) hb).trans h.c1
  c2 := (World.cell?_of_block (a := ⟨q, 2, none⟩) hb).trans h.c2
  c3 := (World.cell?_of_block (a := ⟨q, 3, none⟩) hb).trans h.c3
  c4 := (World.cell?_of_block (a := ⟨q, 4, none⟩) hb).trans h.c4
  c5 := (World.cell?_of_block (a := ⟨q, 5, none⟩) hb).trans h.c5
  c6 := (World.cell?_of_block (a := ⟨q, 6, none⟩) hb).trans h.c6
  c7 := (World.cell?_of_block (a := ⟨q, 7, none⟩) hb).trans h.c7
  c8 := (World.cell?_of_block (a := ⟨q, 8, none⟩) hb).trans h.c8
  c9 := (World.cell?_of_block (a := ⟨q, 9, none⟩) hb).trans h.c9
  c10 := (World.cell?_of_block (a := ⟨q, 10, none⟩) hb).trans h.c10
  c11 := (World.cell?_of_block (a := ⟨q, 11, none⟩) hb).trans h.c11
  c12 := (World.cell?_of_block (a := ⟨q, 12, none⟩) hb).trans h.c12
  c13 := (World.cell?_of_block (a := ⟨q, 13, none⟩) hb).trans h.c13
theorem EntAt.lt {w : World} {q : Nat} {e : En} (h : EntAt w q e) : q < w.heap.size := cell_lt h.c0
theorem EntAt.below {w w' : World} {q : Nat} {e : En} (h : EntAt w q e) (hb : Below w.heap.size w w') : EntAt w' q e := h.of_block (hb.block q h.lt)
def BlkE (w : World) (q : Nat) (e : En) : Prop := w.heap[q]? = some (.cells #[.string e.1, .string e.2.1.1, .int .i64 e.2.1.2, .string e.2.2.1.1, .string e.2.2.1.2.1, .int .i64 e.2.2.1.2.2.1, .int .i64 e.2.2.1.2.2.2, .string e.2.2.2.1.1, .int .i64 e.2.2.2.1.2.1, .int .i64 e.2.2.2.1.2.2, .string e.2.2.2.2.1.1, .int .i64 e.2.2.2.2.1.2.1, .int .i64 e.2.2.2.2.1.2.2, .int .i64 e.2.2.2.2.2] 43 (0, 0))
theorem BlkE.at {w : World} {q : Nat} {e : En} (h : BlkE w q e) : EntAt w q e where
  c0 := by rw [cell_of_heap h]; rfl
  c1 := by rw [cell_of_heap h]; rfl
  c2 := by rw [cell_of_heap h]; rfl
  c3 := by rw [cell_of_heap h]; rfl
  c4 := by rw [cell_of_heap h]; rfl
  c5 := by rw [cell_of_heap h]; rfl
  c6 := by rw [cell_of_heap h]; rfl
  c7 := by rw [cell_of_heap h]; rfl
  c8 := by rw [cell_of_heap h]; rfl
  c9 := by rw [cell_of_heap h]; rfl
  c10 := by rw [cell_of_heap h]; rfl
  c11 := by rw [cell_of_heap h]; rfl
  c12 := by rw [cell_of_heap h]; rfl
  c13 := by rw [cell_of_heap h]; rfl
theorem BlkE.frozen {w : World} {q : Nat} {e : En} (h : BlkE w q e) (o : Nat) : w.frozen? ⟨q, o, none⟩ = false := frozen_of_heap h o
theorem BlkE.lt {w : World} {q : Nat} {e : En} (h : BlkE w q e) : q < w.heap.size := h.at.lt
theorem BlkE.below {w w' : World} {q : Nat} {e : En} (h : BlkE w q e) (hb : Below w.heap.size w w') : BlkE w' q e := (hb.block q h.lt).trans h
theorem BlkE.new (w : World) (e : En) : BlkE (w.alloc (celE e)) w.heap.size e := heap_alloc_new w _
abbrev setE (w : World) (q : Nat) (e : En) : World := (((((((((((((w.setCell ⟨q, 0, none⟩ (.string e.1)).setCell ⟨q, 1, none⟩ (.string e.2.1.1)).setCell ⟨q, 2, none⟩ (.int .i64 e.2.1.2)).setCell ⟨q, 3, none⟩ (.string e.2.2.1.1)).setCell ⟨q, 4, none⟩ (.string e.2.2.1.2.1)).setCell ⟨q, 5, none⟩ (.int .i64 e.2.2.1.2.2.1)).setCell ⟨q, 6, none⟩ (.int .i64 e.2.2.1.2.2.2)).setCell ⟨q, 7, none⟩ (.string e.2.2.2.1.1)).setCell ⟨q, 8, none⟩ (.int .i64 e.2.2.2.1.2.1)).setCell ⟨q, 9, none⟩ (.int .i64 e.2.2.2.1.2.2)).setCell ⟨q, 10, none⟩ (.string e.2.2.2.2.1.1)).setCell ⟨q, 11, none⟩ (.int .i64 e.2.2.2.2.1.2.1)).setCell ⟨q, 12, none⟩ (.int .i64 e.2.2.2.2.1.2.2)).setCell ⟨q, 13, none⟩ (.int .i64 e.2.2.2.2.2)
theorem set_cell {w : World} {q : Nat} {cs cs' : Array Value} {T : TypeId} (h : w.heap[q]? = some (.cells cs T (0, 0))) (i : Nat) (v : Value) (e : cs.setIfInBounds i v = cs') : (w.setCell ⟨q, i, none⟩ v).heap[q]? = some (.cells cs' T (0, 0)) := by
  rw [← e]; exact Joins.block_setCell h v
theorem BlkE.setE {w : World} {q : Nat} {a : En} (h : BlkE w q a) (e : En) : BlkE (setE w q e) q e := by
  have h1 := set_cell (cs' := #[.string e.1, .string a.2.1.1, .int .i64 a.2.1.2, .string a.2.2.1.1, .string a.2.2.1.2.1, .int .i64 a.2.2.1.2.2.1, .int .i64 a.2.2.1.2.2.2, .string a.2.2.2.1.1, .int .i64 a.2.2.2.1.2.1, .int .i64 a.2.2.2.1.2.2, .string a.2.2.2.2.1.1, .int .i64 a.2.2.2.2.1.2.1, .int .i64 a.2.2.2.2.1.2.2, .int .i64 a.2.2.2.2.2]) h 0 (.string e.1) rfl
  have h2 := set_cell (cs' := #[.string e.1, .string e.2.1.1, .int .i64 a.2.1.2, .string a.2.2.1.1, .string a.2.2.1.2.1, .int .i64 a.2.2.1.2.2.1, .int .i64 a.2.2.1.2.2.2, .string a.2.2.2.1.1, .int .i64 a.2.2.2.1.2.1, .int .i64 a.2.2.2.1.2.2, .string a.2.2.2.2.1.1, .int .i64 a.2.2.2.2.1.2.1, .int .i64 a.2.2.2.2.1.2.2, .int .i64 a.2.2.2.2.2]) h1 1 (.string e.2.1.1) rfl
  have h3 := set_cell (cs' := #[.string e.1, .string e.2.1.1, .int .i64 e.2.1.2, .string a.2.2.1.1, .string a.2.2.1.2.1, .int .i64 a.2.2.1.2.2.1, .int .i64 a.2.2.1.2.2.2, .string a.2.2.2.1.1, .int .i64 a.2.2.2.1.2.1, .int .i64 a.2.2.2.1.2.2, .string a.2.2.2.2.1.1, .int .i64 a.2.2.2.2.1.2.1, .int .i64 a.2.2.2.2.1.2.2, .int .i64 a.2.2.2.2.2]) h2 2 (.int .i64 e.2.1.2) rfl
  have h4 := set_cell (cs' := #[.string e.1, .string e.2.1.1, .int .i64 e.2.1.2, .string e.2.2.1.1, .string a.2.2.1.2.1, .int .i64 a.2.2.1.2.2.1, .int .i64 a.2.2.1.2.2.2, .string a.2.2.2.1.1, .int .i64 a.2.2.2.1.2.1, .int .i64 a.2.2.2.1.2.2, .string a.2.2.2.2.1.1, .int .i64 a.2.2.2.2.1.2.1, .int .i64 a.2.2.2.2.1.2.2, .int .i64 a.2.2.2.2.2]) h3 3 (.string e.2.2.1.1) rfl
  have h5 := set_cell (cs' := #[.string e.1, .string e.2.1.1, .int .i64 e.2.1.2, .string e.2.2.1.1, .string e.2.2.1.2.1, .int .i64 a.2.2.1.2.2.1, .int .i64 a.2.2.1.2.2.2, .string a.2.2.2.1.1, .int .i64 a.2.2.2.1.2.1, .int .i64 a.2.2.2.1.2.2, .string a.2.2.2.2.1.1, .int .i64 a.2.2.2.2.1.2.1, .int .i64 a.2.2.2.2.1.2.2, .int .i64 a.2.2.2.2.2]) h4 4 (.string e.2.2.1.2.1) rfl
  have h6 := set_cell (cs' := #[.string e.1, .string e.2.1.1, .int .i64 e.2.1.2, .string e.2.2.1.1, .string e.2.2.1.2.1, .int .i64 e.2.2.1.2.2.1, .int .i64 a.2.2.1.2.2.2, .string a.2.2.2.1.1, .int .i64 a.2.2.2.1.2.1, .int .i64 a.2.2.2.1.2.2, .string a.2.2.2.2.1.1, .int .i64 a.2.2.2.2.1.2.1, .int .i64 a.2.2.2.2.1.2.2, .int .i64 a.2.2.2.2.2]) h5 5 (.int .i64 e.2.2.1.2.2.1) rfl
  have h7 := set_cell (cs' := #[.string e.1, .string e.2.1.1, .int .i64 e.2.1.2, .string e.2.2.1.1, .string e.2.2.1.2.1, .int .i64 e.2.2.1.2.2.1, .int .i64 e.2.2.1.2.2.2, .string a.2.2.2.1.1, .int .i64 a.2.2.2.1.2.1, .int .i64 a.2.2.2.1.2.2, .string a.2.2.2.2.1.1, .int .i64 a.2.2.2.2.1.2.1, .int .i64 a.2.2.2.2.1.2.2, .int .i64 a.2.2.2.2.2]) h6 6 (.int .i64 e.2.2.1.2.2.2) rfl
  have h8 := set_cell (cs' := #[.string e.1, .string e.2.1.1, .int .i64 e.2.1.2, .string e.2.2.1.1, .string e.2.2.1.2.1, .int .i64 e.2.2.1.2.2.1, .int .i64 e.2.2.1.2.2.2, .string e.2.2.2.1.1, .int .i64 a.2.2.2.1.2.1, .int .i64 a.2.2.2.1.2.2, .string a.2.2.2.2.1.1, .int .i64 a.2.2.2.2.1.2.1, .int .i64 a.2.2.2.2.1.2.2, .int .i64 a.2.2.2.2.2]) h7 7 (.string e.2.2.2.1.1) rfl
  have h9 := set_cell (cs' := #[.string e.1, .string e.2.1.1, .int .i64 e.2.1.2, .string e.2.2.1.1, .string e.2.2.1.2.1, .int .i64 e.2.2.1.2.2.1, .int .i64 e.2.2.1.2.2.2, .string e.2.2.2.1.1, .int .i64 e.2.2.2.1.2.1, .int .i64 a.2.2.2.1.2.2, .string a.2.2.2.2.1.1, .int .i64 a.2.2.2.2.1.2.1, .int .i64 a.2.2.2.2.1.2.2, .int .i64 a.2.2.2.2.2]) h8 8 (.int .i64 e.2.2.2.1.2.1) rfl
  have h10 := set_cell (cs' := #[.string e.1, .string e.2.1.1, .int .i64 e.2.1.2, .string e.2.2.1.1, .string e.2.2.1.2.1, .int .i64 e.2.2.1.2.2.1, .int .i64 e.2.2.1.2.2.2, .string e.2.2.2.1.1, .int .i64 e.2.2.2.1.2.1, .int .i64 e.2.2.2.1.2.2, .string a.2.2.2.2.1.1, .int .i64 a.2.2.2.2.1.2.1, .int .i64 a.2.2.2.2.1.2.2, .int .i64 a.2.2.2.2.2]) h9 9 (.int .i64 e.2.2.2.1.2.2) rfl
  have h11 := set_cell (cs' := #[.string e.1, .string e.2.1.1, .int .i64 e.2.1.2, .string e.2.2.1.1, .string e.2.2.1.2.1, .int .i64 e.2.2.1.2.2.1, .int .i64 e.2.2.1.2.2.2, .string e.2.2.2.1.1, .int .i64 e.2.2.2.1.2.1, .int .i64 e.2.2.2.1.2.2, .string e.2.2.2.2.1.1, .int .i64 a.2.2.2.2.1.2.1, .int .i64 a.2.2.2.2.1.2.2, .int .i64 a.2.2.2.2.2]) h10 10 (.string e.2.2.2.2.1.1) rfl
  have h12 := set_cell (cs' := #[.string e.1, .string e.2.1.1, .int .i64 e.2.1.2, .string e.2.2.1.1, .string e.2.2.1.2.1, .int .i64 e.2.2.1.2.2.1, .int .i64 e.2.2.1.2.2.2, .string e.2.2.2.1.1, .int .i64 e.2.2.2.1.2.1, .int .i64 e.2.2.2.1.2.2, .string e.2.2.2.2.1.1, .int .i64 e.2.2.2.2.1.2.1, .int .i64 a.2.2.2.2.1.2.2, .int .i64 a.2.2.2.2.2]) h11 11 (.int .i64 e.2.2.2.2.1.2.1) rfl
  have h13 := set_cell (cs' := #[.string e.1, .string e.2.1.1, .int .i64 e.2.1.2, .string e.2.2.1.1, .string e.2.2.1.2.1, .int .i64 e.2.2.1.2.2.1, .int .i64 e.2.2.1.2.2.2, .string e.2.2.2.1.1, .int .i64 e.2.2.2.1.2.1, .int .i64 e.2.2.2.1.2.2, .string e.2.2.2.2.1.1, .int .i64 e.2.2.2.2.1.2.1, .int .i64 e.2.2.2.2.1.2.2, .int .i64 a.2.2.2.2.2]) h12 12 (.int .i64 e.2.2.2.2.1.2.2) rfl
  have h14 := set_cell (cs' := #[.string e.1, .string e.2.1.1, .int .i64 e.2.1.2, .string e.2.2.1.1, .string e.2.2.1.2.1, .int .i64 e.2.2.1.2.2.1, .int .i64 e.2.2.1.2.2.2, .string e.2.2.2.1.1, .int .i64 e.2.2.2.1.2.1, .int .i64 e.2.2.2.1.2.2, .string e.2.2.2.2.1.1, .int .i64 e.2.2.2.2.1.2.1, .int .i64 e.2.2.2.2.1.2.2, .int .i64 e.2.2.2.2.2]) h13 13 (.int .i64 e.2.2.2.2.2) rfl
  exact h14
theorem below_setE {B q : Nat} {w W : World} (hb : Below B w W) (hq : B ≤ q) (e : En) : Below B w (setE W q e) :=
  ((((((((((((((hb.setCell (p := ⟨q, 0, none⟩) hq _).setCell (p := ⟨q, 1, none⟩) hq _).setCell (p := ⟨q, 2, none⟩) hq _).setCell (p := ⟨q, 3, none⟩) hq _).setCell (p := ⟨q, 4, none⟩) hq _).setCell (p := ⟨q, 5, none⟩) hq _).setCell (p := ⟨q, 6, none⟩) hq _).setCell (p := ⟨q, 7, none⟩) hq _).setCell (p := ⟨q, 8, none⟩) hq _).setCell (p := ⟨q, 9, none⟩) hq _).setCell (p := ⟨q, 10, none⟩) hq _).setCell (p := ⟨q, 11, none⟩) hq _).setCell (p := ⟨q, 12, none⟩) hq _).setCell (p := ⟨q, 13, none⟩) hq _)
theorem Tryz.guardE : Tryz.prog.eqGuardType Tryz.prog.depth 43 = false := by kernel_rfl
theorem eqPl9 (x y : Pl) (w : World) : (Op.equalIn 9999 41 (.agg #[.string x.1, .int .i64 x.2.1, .int .i64 x.2.2]) (.agg #[.string y.1, .int .i64 y.2.1, .int .i64 y.2.2])).run Tryz.prog w = .ok (decide (x = y)) w := by
  obtain ⟨a, r, b⟩ := x
  obtain ⟨a', r', b'⟩ := y
  have u3 := Tryz.underlying3
  have a3 := Tryz.isAgg3
  have z3 := Tryz.sizeOf3
  have u9 := Tryz.underlying9
  have a9 := Tryz.isAgg9
  have z9 := Tryz.sizeOf9
  have hS : Tryz.prog.underlying 41 = some (.struct (Tryz.prog.fieldsOf 41)) := by kernel_rfl
  have hp : Tryz.prog.stoodInHeld 41 = false := by kernel_rfl
  rw [show (9999 : Nat) = 9998 + 1 from rfl, run_equalIn_agg w 9998 41 _ _ hS hp]
  simp only [Program.fieldsOf, Tryz.underlying41]
  have e3 := same_eq a a'
  go_simp
  by_cases h1 : a = a' <;> by_cases h2 : r = r' <;> by_cases h3 : b = b' <;> simp [h1, h2, h3]
theorem eqG9 (x y : Gd) (w : World) : (Op.equalIn 9999 37 (.agg #[.string x.1, .int .i64 x.2]) (.agg #[.string y.1, .int .i64 y.2])).run Tryz.prog w = .ok (decide (x = y)) w := by
  obtain ⟨a, r⟩ := x
  obtain ⟨a', r'⟩ := y
  have u3 := Tryz.underlying3
  have a3 := Tryz.isAgg3
  have z3 := Tryz.sizeOf3
  have u9 := Tryz.underlying9
  have a9 := Tryz.isAgg9
  have z9 := Tryz.sizeOf9
  have hS : Tryz.prog.underlying 37 = some (.struct (Tryz.prog.fieldsOf 37)) := by kernel_rfl
  have hp : Tryz.prog.stoodInHeld 37 = false := by kernel_rfl
  rw [show (9999 : Nat) = 9998 + 1 from rfl, run_equalIn_agg w 9998 37 _ _ hS hp]
  simp only [Program.fieldsOf, Tryz.underlying37]
  have e3 := same_eq a a'
  go_simp
  by_cases h1 : a = a' <;> by_cases h2 : r = r' <;> simp [h1, h2]
theorem eqL9 (x y : Lo) (w : World) : (Op.equalIn 9999 39 (.agg #[.string x.1, .string x.2.1, .int .i64 x.2.2.1, .int .i64 x.2.2.2]) (.agg #[.string y.1, .string y.2.1, .int .i64 y.2.2.1, .int .i64 y.2.2.2])).run Tryz.prog w = .ok (decide (x = y)) w := by
  obtain ⟨a, r, b, c⟩ := x
  obtain ⟨a', r', b', c'⟩ := y
  have u3 := Tryz.underlying3
  have a3 := Tryz.isAgg3
  have z3 := Tryz.sizeOf3
  have u9 := Tryz.underlying9
  have a9 := Tryz.isAgg9
  have z9 := Tryz.sizeOf9
  have hS : Tryz.prog.underlying 39 = some (.struct (Tryz.prog.fieldsOf 39)) := by kernel_rfl
  have hp : Tryz.prog.stoodInHeld 39 = false := by kernel_rfl
  rw [show (9999 : Nat) = 9998 + 1 from rfl, run_equalIn_agg w 9998 39 _ _ hS hp]
  simp only [Program.fieldsOf, Tryz.underlying39]
  have e3 := same_eq a a'
  have e4 := same_eq r r'
  go_simp
  by_cases h1 : a = a' <;> by_cases h2 : r = r' <;> by_cases h3 : b = b' <;> by_cases h4 : c = c' <;> simp [h1, h2, h3, h4]
theorem eqE_run (x y : En) (w : World) : (Op.equalIn 10000 43 (agE x) (agE y)).run Tryz.prog w = .ok (sameE x y) w := by
  have hG := eqG9 x.2.1 y.2.1
  have hL := eqL9 x.2.2.1 y.2.2.1
  have hP := eqPl9 x.2.2.2.1 y.2.2.2.1
  have hQ := eqPl9 x.2.2.2.2.1 y.2.2.2.2.1
  have HE : Hid (sameE x y = (decide (x.1 = y.1) && (decide (x.2.1 = y.2.1) && (decide (x.2.2.1 = y.2.2.1) && (decide (x.2.2.2.1 = y.2.2.2.1) && (decide (x.2.2.2.2.1 = y.2.2.2.2.1) && decide (x.2.2.2.2.2 = y.2.2.2.2.2))))))) := rfl
  have e3 := same_eq x.1 y.1
  generalize sameE x y = D at *
  generalize decide (x.1 = y.1) = D1 at *
  generalize decide (x.2.1 = y.2.1) = D2 at *
  generalize decide (x.2.2.1 = y.2.2.1) = D3 at *
  generalize decide (x.2.2.2.1 = y.2.2.2.1) = D4 at *
  generalize decide (x.2.2.2.2.1 = y.2.2.2.2.1) = D5 at *
  have h6 : (x.2.2.2.2.2 == y.2.2.2.2.2) = decide (x.2.2.2.2.2 = y.2.2.2.2.2) := rfl
  generalize hD6 : decide (x.2.2.2.2.2 = y.2.2.2.2.2) = D6 at *
  clear hD6
  obtain ⟨k, ⟨gc, gp⟩, ⟨li, lc, lu, lk⟩, ⟨fz, fr, fb⟩, ⟨tz, tr, tb⟩, n⟩ := x
  obtain ⟨k', ⟨gc', gp'⟩, ⟨li', lc', lu', lk'⟩, ⟨fz', fr', fb'⟩, ⟨tz', tr', tb'⟩, n'⟩ := y
  unfold agE
  simp only at hG hL hP hQ e3 h6 ⊢
  have u3 := Tryz.underlying3
  have a3 := Tryz.isAgg3
  have z3 := Tryz.sizeOf3
  have u9 := Tryz.underlying9
  have a9 := Tryz.isAgg9
  have z9 := Tryz.sizeOf9
  have a41 := Tryz.isAgg41
  have z41 := Tryz.sizeOf41
  have a55 := Tryz.isAgg37
  have z55 := Tryz.sizeOf37
  have a57 := Tryz.isAgg39
  have z57 := Tryz.sizeOf39
  have hS : Tryz.prog.underlying 43 = some (.struct (Tryz.prog.fieldsOf 43)) := by kernel_rfl
  have hp : Tryz.prog.stoodInHeld 43 = false := by kernel_rfl
  rw [show (10000 : Nat) = 9999 + 1 from rfl, run_equalIn_agg w 9999 43 _ _ hS hp]
  simp only [Program.fieldsOf, Tryz.underlying43]
  rw [HE.out]
  clear HE
  cases D1 <;> cases D2 <;> cases D3 <;> cases D4 <;> cases D5 <;> cases D6 <;> go_simp
theorem places_to (k : ByteArray) (q : Nat) (w : World) (hk : k = kIn ∨ k = kMore) (h0 : w.cell? ⟨q, 0, none⟩ = some (.string k)) :
    Calls Tryz.prog 97 #[.pointer (some ⟨q, 0, none⟩)] w fun e w' => e = .returned (.tuple #[.slice (some ⟨w.heap.size, 0, none⟩) 1 1, .bool true]) ∧ w' = w.alloc (.cells #[.pointer (some ⟨q, 10, none⟩)] 161) := by
  rcases hk with rfl | rfl
  all_goals
    go_enter Tryz.func97, Tryz.ntmps97
    go_wp2
    go_ret2
    exact ⟨rfl, rfl⟩
theorem places_from (k : ByteArray) (q : Nat) (w : World) (hk : k = kOut ∨ k = kLess) (h0 : w.cell? ⟨q, 0, none⟩ = some (.string k)) :
    Calls Tryz.prog 97 #[.pointer (some ⟨q, 0, none⟩)] w fun e w' => e = .returned (.tuple #[.slice (some ⟨w.heap.size, 0, none⟩) 1 1, .bool true]) ∧ w' = w.alloc (.cells #[.pointer (some ⟨q, 7, none⟩)] 161) := by
  rcases hk with rfl | rfl
  all_goals
    go_enter Tryz.func97, Tryz.ntmps97
    go_wp2
    go_ret2
    exact ⟨rfl, rfl⟩
theorem places_move (q : Nat) (w : World) (h0 : w.cell? ⟨q, 0, none⟩ = some (.string kMove)) :
    Calls Tryz.prog 97 #[.pointer (some ⟨q, 0, none⟩)] w fun e w' => e = .returned (.tuple #[.slice (some ⟨w.heap.size, 0, none⟩) 2 2, .bool true]) ∧ w' = (w.alloc (.cells #[.pointer (some ⟨q, 7, none⟩), .pointer (some ⟨q, 10, none⟩)] 161)).drew := by
  go_enter Tryz.func97, Tryz.ntmps97
  go_wp2
  go_region
  go_wp2
  go_ret2
  exact ⟨rfl, rfl⟩
theorem places_hold (k : ByteArray) (q : Nat) (w : World) (hk : k = kHold ∨ k = kFree) (h0 : w.cell? ⟨q, 0, none⟩ = some (.string k)) :
    Calls Tryz.prog 97 #[.pointer (some ⟨q, 0, none⟩)] w fun e w' => e = .returned (.tuple #[.slice none 0 0, .bool true]) ∧ w' = w := by
  rcases hk with rfl | rfl
  all_goals
    go_enter Tryz.func97, Tryz.ntmps97
    go_wp2
    go_ret2
    exact ⟨rfl, rfl⟩
theorem other_word {k z : ByteArray} (h : k ≠ z) : (k.toList == z.data.toList) = false := by
  have := same_eq k z
  rw [decide_eq_false h, Lib.toList_data z] at this
  exact this
theorem places_other (k : ByteArray) (q : Nat) (w : World) (hk : NoKind k) (h0 : w.cell? ⟨q, 0, none⟩ = some (.string k)) :
    Calls Tryz.prog 97 #[.pointer (some ⟨q, 0, none⟩)] w fun e w' => e = .returned (.tuple #[.slice none 0 0, .bool false]) ∧ w' = w := by
  have e3 := other_word hk.in_
  have e4 := other_word hk.more
  have e5 := other_word hk.out
  have e6 := other_word hk.less
  have e7 := other_word hk.move
  have e8 := other_word hk.hold
  have e9 := other_word hk.free
  simp only at e3 e4 e5 e6 e7 e8 e9
  clear hk
  go_enter Tryz.func97, Tryz.ntmps97
  go_wp2
  go_ret2
  exact ⟨rfl, rfl⟩
theorem packE_yes (p : Int) (w : World) (h1 : 1 ≤ p) (h2 : p ≤ 1000) : Calls Tryz.prog 115 #[.int .i64 p] w fun e w' => e = .returned (.bool true) ∧ w' = w := by
  go_enter Tryz.func115, Tryz.ntmps115
  go_wp2
  go_ret
  exact ⟨rfl, rfl⟩
theorem packE_no (p : Int) (w : World) (h : pw p = false) : Calls Tryz.prog 115 #[.int .i64 p] w fun e w' => e = .returned (.bool false) ∧ w' = w := by
  have h' : p < 1 ∨ (1 ≤ p ∧ 1000 < p) := by unfold pw at h; simp at h; omega
  clear h
  rcases h' with h | ⟨h, h'⟩
  · go_enter Tryz.func115, Tryz.ntmps115
    go_wp2
    go_ret
    exact ⟨rfl, rfl⟩
  · go_enter Tryz.func115, Tryz.ntmps115
    go_wp2
    go_ret
    exact ⟨by simp [show ¬ p ≤ 1000 by omega], rfl⟩
theorem gcheck_any (g : Gd) (w : World) (s : Nat → Addr) (hz : g.1.size ≤ maxLen) (hs : Two w s) :
    Calls Tryz.prog 94 #[.agg #[.string g.1, .int .i64 g.2]] w fun e w' => e = .returned (errP s (gdErr g)) ∧ Below w.heap.size w w' := by
  obtain ⟨x, pack⟩ := g
  simp only at hz ⊢
  have hs2 : Two (w.alloc (.cells #[.string x, .int .i64 pack] 37)) s := hs.below ((Below.refl _ _).alloc (Nat.le_refl _) _)
  obtain ⟨hB, hN⟩ := hs2
  have hn : ∀ w, Calls Tryz.prog 77 #[.string x] w _ := fun w => name_any x w hz
  cases h1 : isName x.data.toList with
  | false =>
    rw [h1] at hn
    have HE : Hid (errP s (gdErr (x, pack)) = err (s 4)) := by
      show _ = _
      unfold gdErr; simp only [h1]; rfl
    clear hs
    go_enter Tryz.func94, Tryz.ntmps94
    go_wp2_with (go_at_call 77; refine (hn _).mono ?_; rintro e w1 ⟨rfl, rfl⟩)
    go_ret
    exact ⟨by rw [HE.out]; rfl, (Below.refl _ _).alloc (Nat.le_refl _) _⟩
  | true =>
    rw [h1] at hn
    cases h2 : pw pack with
    | false =>
      have HE : Hid (errP s (gdErr (x, pack)) = err (s 1)) := by
        show _ = _
        unfold gdErr; simp only [h1, h2]; rfl
      have hc := fun w => packE_no pack w h2
      clear hs
      go_enter Tryz.func94, Tryz.ntmps94
      go_wp2_with (first | (go_at_call 77; refine (hn _).mono ?_; rintro e w1 ⟨rfl, rfl⟩) | (go_at_call 115; refine (hc _).mono ?_; rintro e w1 ⟨rfl, rfl⟩))
      go_ret
      exact ⟨by rw [HE.out]; rfl, (Below.refl _ _).alloc (Nat.le_refl _) _⟩
    | true =>
      have HE : Hid (errP s (gdErr (x, pack)) = .nilIface) := by
        show _ = _
        unfold gdErr; simp only [h1, h2]; rfl
      have h : 1 ≤ pack ∧ pack ≤ 1000 := by unfold pw at h2; simpa using h2
      have hc := fun w => packE_yes pack w h.1 h.2
      clear hs
      go_enter Tryz.func94, Tryz.ntmps94
      go_wp2_with (first | (go_at_call 77; refine (hn _).mono ?_; rintro e w1 ⟨rfl, rfl⟩) | (go_at_call 115; refine (hc _).mono ?_; rintro e w1 ⟨rfl, rfl⟩))
      go_ret
      exact ⟨by rw [HE.out]; rfl, (Below.refl _ _).alloc (Nat.le_refl _) _⟩
theorem gerror_any (g : Gd) (w : World) (hz : g.1.size ≤ maxLen) :
    Calls Tryz.prog 89 #[.agg #[.string g.1, .int .i64 g.2]] w fun e w' => e = .returned (.int .i64 (gdErr g)) ∧ Below w.heap.size w w' := by
  obtain ⟨x, pack⟩ := g
  simp only at hz ⊢
  have hn : ∀ w, Calls Tryz.prog 43 #[.string x] w _ := fun w => isName_any x w hz
  unfold gdErr
  simp only
  cases h1 : isName x.data.toList with
  | false =>
    rw [h1] at hn
    rw [if_neg (by decide)]
    go_enter Tryz.func89, Tryz.ntmps89
    go_wp2_with (go_at_call 43; refine (hn _).mono ?_; rintro e w1 ⟨rfl, rfl⟩)
    go_ret
    exact ⟨rfl, (Below.refl _ _).alloc (Nat.le_refl _) _⟩
  | true =>
    rw [h1] at hn
    rw [if_pos rfl]
    have hc : (pack < 1 ∧ pw pack = false) ∨ (1 ≤ pack ∧ 1000 < pack ∧ pw pack = false) ∨ (1 ≤ pack ∧ pack ≤ 1000 ∧ pw pack = true) := by
      unfold pw
      by_cases q1 : pack < 1
      · exact Or.inl ⟨q1, by simp; omega⟩
      · by_cases q2 : 1000 < pack
        · exact Or.inr (Or.inl ⟨by omega, q2, by simp; omega⟩)
        · exact Or.inr (Or.inr ⟨by omega, by omega, by simp; omega⟩)
    rcases hc with ⟨q1, h2⟩ | ⟨q1, q2, h2⟩ | ⟨q1, q2, h2⟩
    · rw [if_neg (by rw [h2]; decide)]
      clear h2
      go_enter Tryz.func89, Tryz.ntmps89
      go_wp2_with (go_at_call 43; refine (hn _).mono ?_; rintro e w1 ⟨rfl, rfl⟩)
      go_ret
      exact ⟨rfl, (Below.refl _ _).alloc (Nat.le_refl _) _⟩
    · rw [if_neg (by rw [h2]; decide)]
      clear h2
      go_enter Tryz.func89, Tryz.ntmps89
      go_wp2_with (go_at_call 43; refine (hn _).mono ?_; rintro e w1 ⟨rfl, rfl⟩)
      go_ret
      exact ⟨rfl, (Below.refl _ _).alloc (Nat.le_refl _) _⟩
    · rw [if_pos h2]
      clear h2
      go_enter Tryz.func89, Tryz.ntmps89
      go_wp2_with (go_at_call 43; refine (hn _).mono ?_; rintro e w1 ⟨rfl, rfl⟩)
      go_ret
      exact ⟨rfl, (Below.refl _ _).alloc (Nat.le_refl _) _⟩
end Go.Proofs.YtppodkkefegbkaaGreatDoor
namespace Go.Proofs.YtppodkkefegbkaaGreatDoor
open Go.RowKit Go.Lib Go.Sort
structure Enc (α : Type) where
  k : Nat
  enc : α → List Value
  len : ∀ x, (enc x).length = k
  one : ∀ x, ∀ v ∈ enc x, v.oneCell' = true
variable {α : Type}
def Enc.flat (E : Enc α) (m : List α) : List Value := m.flatMap E.enc
theorem Enc.flat_append (E : Enc α) (a b : List α) : E.flat (a ++ b) = E.flat a ++ E.flat b := by unfold Enc.flat; rw [List.flatMap_append]
theorem Enc.flat_one (E : Enc α) (x : α) : E.flat [x] = E.enc x := by unfold Enc.flat; simp
theorem Enc.flat_len (E : Enc α) (m : List α) : (E.flat m).length = m.length * E.k := by
  unfold Enc.flat
  induction m with
  | nil => simp
  | cons x m ih => rw [List.flatMap_cons, List.length_append, ih, E.len, List.length_cons, Nat.succ_mul]; omega
theorem Enc.flat_cell (E : Enc α) (m : List α) : ∀ v ∈ E.flat m, v.oneCell' = true := by
  intro v hv
  unfold Enc.flat at hv
  obtain ⟨x, _, h⟩ := List.mem_flatMap.1 hv
  exact E.one x v h
theorem Enc.flat_get (E : Enc α) : ∀ {m : List α} {i : Nat} {x : α} (c : Nat), m[i]? = some x → c < E.k → (E.flat m)[i * E.k + c]? = (E.enc x)[c]?
  | [], i, x, c, h, hc => by simp at h
  | y :: m, 0, x, c, h, hc => by
    obtain rfl : y = x := by simpa using h
    unfold Enc.flat
    rw [List.flatMap_cons, List.getElem?_append_left (by rw [E.len]; omega)]
    simp
  | y :: m, i + 1, x, c, h, hc => by
    have h' : m[i]? = some x := by simpa using h
    have ih := E.flat_get (m := m) c h' hc
    unfold Enc.flat at *
    rw [List.flatMap_cons, List.getElem?_append_right (by rw [E.len, Nat.succ_mul]; omega), E.len, ← ih]
    congr 1
    rw [Nat.succ_mul]; omega
theorem Enc.flat_take (E : Enc α) (m : List α) (n : Nat) (h : n ≤ m.length) : (E.flat m).take (n * E.k) = E.flat (m.take n) := by
  have e : m = m.take n ++ m.drop n := (List.take_append_drop n m).symm
  have hl : (E.flat (m.take n)).length = n * E.k := by rw [E.flat_len, List.length_take, Nat.min_eq_left h]
  conv => lhs; rw [e, E.flat_append]
  rw [← hl, List.take_left']
  rfl
theorem Enc.flat_drop (E : Enc α) (m : List α) (n : Nat) (h : n ≤ m.length) : (E.flat m).drop (n * E.k) = E.flat (m.drop n) := by
  have e : m = m.take n ++ m.drop n := (List.take_append_drop n m).symm
  have hl : (E.flat (m.take n)).length = n * E.k := by rw [E.flat_len, List.length_take, Nat.min_eq_left h]
  conv => lhs; rw [e, E.flat_append]
  rw [← hl, List.drop_left']
  rfl
def Enc.Row (E : Enc α) (w : World) (B : Nat) (T : TypeId) (v : Value) (m : List α) : Prop := w.ownsRow B T E.k v m.length (E.flat m)
theorem Enc.Row.nil (E : Enc α) (w : World) (B : Nat) (T : TypeId) : E.Row w B T (.slice none 0 0) [] := World.ownsRow_nil w B T E.k
theorem Enc.Row.forms {E : Enc α} {w : World} {B : Nat} {T : TypeId} {v : Value} {m : List α} (h : E.Row w B T v m) :
    (v = .slice none 0 0 ∧ m = []) ∨ ∃ g cap, v = .slice (some ⟨g, 0, none⟩) m.length cap ∧ B ≤ g ∧ g < w.heap.size ∧ m.length ≤ cap ∧ (∀ o, w.frozen? ⟨g, o, none⟩ = false) ∧ ∀ i x c, m[i]? = some x → c < E.k → w.cell? ⟨g, i * E.k + c, none⟩ = (E.enc x)[c]? := by
  have h0 := h
  rcases h.2 with ⟨h1, h2⟩ | ⟨g, cap, cur, rfl, hb, hg, hle, -, -, -⟩
  · exact Or.inl ⟨h1, List.eq_nil_of_length_eq_zero h2⟩
  · refine Or.inr ⟨g, cap, rfl, hb, (Array.getElem?_eq_some_iff.1 hg).1, hle, fun o => frozen_of_heap hg o, fun i x c hx hc => ?_⟩
    have hi := (List.getElem?_eq_some_iff.1 hx).1
    have hlt : i * E.k + c < m.length * E.k := by
      have : (i + 1) * E.k ≤ m.length * E.k := Nat.mul_le_mul_right _ hi
      rw [Nat.succ_mul] at this
      omega
    rw [World.ownsRow.cellAt h0 (i * E.k + c) hlt]
    exact E.flat_get c hx hc
theorem Enc.Row.kept {E : Enc α} {w w' : World} {B : Nat} {T : TypeId} {v : Value} {m : List α} (h : E.Row w B T v m) (hb : ∀ g, v.ownBlock = some g → w'.heap[g]? = w.heap[g]?) : E.Row w' B T v m := by
  refine ⟨h.1, ?_⟩
  rcases h.2 with h1 | ⟨g, cap, cur, rfl, h2, hg, h3⟩
  · exact Or.inl h1
  · exact Or.inr ⟨g, cap, cur, rfl, h2, (hb g rfl).trans hg, h3⟩
theorem Enc.Row.lt {E : Enc α} {w : World} {B : Nat} {T : TypeId} {v : Value} {m : List α} (h : E.Row w B T v m) {g : Nat} (hg : v.ownBlock = some g) : B ≤ g ∧ g < w.heap.size := World.ownsRow.lt h g hg
theorem Enc.Row.below {E : Enc α} {w w' : World} {B : Nat} {T : TypeId} {v : Value} {m : List α} (h : E.Row w B T v m) (hb : Below w.heap.size w w') : E.Row w' B T v m := h.kept fun g hg => hb.block g (h.lt hg).2
theorem Enc.Row.base {E : Enc α} {w : World} {B B' : Nat} {T : TypeId} {v : Value} {m : List α} (h : E.Row w B T v m) (hB : B' ≤ B) : E.Row w B' T v m := by
  refine ⟨h.1, ?_⟩
  rcases h.2 with h1 | ⟨g, cap, cur, rfl, h2, h3⟩
  · exact Or.inl h1
  · exact Or.inr ⟨g, cap, cur, rfl, Nat.le_trans hB h2, h3⟩
end Go.Proofs.YtppodkkefegbkaaGreatDoor
