/-
 Plain mathematics of a book: goods with their sums, lots with what is held, lines; what an entry does to it; no program is named here.
-/
import Derived.Test.YtpnmbomjnpheeaaGreatDoorJz9
import Derived.Test.YtpnmbomjnpheeaaGreatDoorJz5
import Derived.OwnWalk
import Derived.Lib.SmallJoins
set_option maxRecDepth 100000
set_option maxHeartbeats 16000000
namespace Go.Proofs.YtpnmbomjnpheeaaGreatDoor
open Go.Lib Go.Sort
abbrev Su := Int × Int × Int × Int
abbrev Gs := Gd × Su
abbrev Lh := Lo × Int
abbrev Bk := List Gs × List Lh × List Ln
def zeroSu : Su := (0, 0, 0, 0)
def findI {α : Type} (f : α → ByteArray) (m : List α) (c : ByteArray) : Int := match m.findIdx? (fun x => decide (f x = c)) with | some i => (i : Int) | none => -1
theorem findI_none {α : Type} {f : α → ByteArray} {m : List α} {c : ByteArray} (h : ∀ x ∈ m, f x ≠ c) : findI f m c = -1 := by
 unfold findI
 rw [List.findIdx?_eq_none_iff.2 (fun l hl => by simpa using h l hl)]
theorem findI_at {α : Type} {f : α → ByteArray} {m : List α} {c : ByteArray} {i : Nat} {x : α} (hx : m[i]? = some x) (hc : f x = c) (hno : ∀ y ∈ m.take i, f y ≠ c) : findI f m c = i := by
 obtain ⟨hi, e⟩ := List.getElem?_eq_some_iff.1 hx
 unfold findI
 rw [List.findIdx?_eq_some_iff_getElem.2 ⟨hi, by rw [e]; simpa using hc, fun j hj => by
  have := hno m[j] (List.mem_take_iff_getElem.2 ⟨j, by omega, rfl⟩)
  simpa using this⟩]
theorem findI_cases {α : Type} (f : α → ByteArray) (m : List α) (c : ByteArray) : (findI f m c = -1 ∧ ∀ x ∈ m, f x ≠ c) ∨ ∃ (i : Nat) (x : α), findI f m c = i ∧ m[i]? = some x ∧ f x = c := by
 unfold findI
 cases h : m.findIdx? (fun x => decide (f x = c)) with
 | none => exact Or.inl ⟨rfl, fun l hl => by simpa using List.findIdx?_eq_none_iff.1 h l hl⟩
 | some i =>
  obtain ⟨hi, h1, _⟩ := List.findIdx?_eq_some_iff_getElem.1 h
  exact Or.inr ⟨i, m[i], rfl, List.getElem?_eq_getElem hi, by simpa using h1⟩
theorem takeI_next {α : Type} {m : List α} {k : Nat} {x : α} {P : α → Prop} (hl : m[k]? = some x) (h : ∀ y ∈ m.take k, P y) (h1 : P x) : ∀ y ∈ m.take (k + 1), P y := by
 obtain ⟨hk, e⟩ := List.getElem?_eq_some_iff.1 hl
 rw [List.take_succ_eq_append_getElem hk, e]
 intro y hy
 rcases List.mem_append.1 hy with hy | hy
 ·exact h y hy
 ·obtain rfl : y = x := by simpa using hy
  exact h1
def nameG (g : Gs) : ByteArray := g.1.1
def nameL (l : Lh) : ByteArray := l.1.1
def aheadC {α : Type} (f : α → ByteArray) (c : ByteArray) : List α → Nat
 | [] => 0
 | x :: m => if zLt (f x) c then aheadC f c m + 1 else 0
theorem aheadC_le {α : Type} (f : α → ByteArray) (c : ByteArray) : ∀ m : List α, aheadC f c m ≤ m.length
 | [] => Nat.le_refl _
 | x :: m => by
  unfold aheadC
  have := aheadC_le f c m
  split
  ·simp; omega
  ·omega
theorem aheadC_eq {α : Type} (f : α → ByteArray) (c : ByteArray) : ∀ (m : List α) (k : Nat), k ≤ m.length → (∀ x ∈ m.take k, zLt (f x) c = true) → (∀ x, m[k]? = some x → zLt (f x) c = false) → aheadC f c m = k
 | [], k, h, _, _ => by simp at h; subst h; rfl
 | x :: m, 0, _, _, h2 => by
  have := h2 x rfl
  unfold aheadC
  rw [this]; rfl
 | x :: m, k + 1, h, h1, h2 => by
  have hx := h1 x (by simp)
  unfold aheadC
  rw [if_pos hx, aheadC_eq f c m k (by simpa using h) (fun y hy => h1 y (by simp [hy])) (fun y hy => h2 y (by simpa using hy))]
def insC {α : Type} (f : α → ByteArray) (m : List α) (x : α) : List α := m.take (aheadC f (f x) m) ++ x :: m.drop (aheadC f (f x) m)
def mostS : Int := 65970697666560
def okSu (s : Su) : Bool := decide (s.1 ≤ mostS) && (decide (s.2.1 ≤ mostS) && (decide (s.2.2.1 ≤ mostS) && decide (s.2.2.2 ≤ mostS)))
def addSu (k : ByteArray) (s : Su) (n : Int) : Su :=
 if k = kIn then (s.1 + n, s.2.1, s.2.2.1, s.2.2.2) else if k = kMore then (s.1, s.2.1, s.2.2.1 + n, s.2.2.2) else if k = kOut then (s.1, s.2.1 + n, s.2.2.1, s.2.2.2) else if k = kLess then (s.1, s.2.1, s.2.2.1, s.2.2.2 + n) else s
def heldN (k : ByteArray) (h n : Int) : Int := if k = kHold then h + n else if k = kFree then h - n else h
def stkE (e : En) (m : List Ln) : Nat :=
 match kd e.1 with
 | .tow => putE m e.2.2.2.2.1 e.2.2.1.1 e.2.2.2.2.2
 | .frm => takeE m (e.2.2.2.1, e.2.2.1.1) e.2.2.2.2.2
 | .move => moveE m e.2.2.2.1 e.2.2.2.2.1 e.2.2.1.1 e.2.2.2.2.2
 | _ => 0
def stkL (e : En) (m : List Ln) : List Ln :=
 match kd e.1 with
 | .tow => putL m e.2.2.2.2.1 e.2.2.1.1 e.2.2.2.2.2
 | .frm => takeL m (e.2.2.2.1, e.2.2.1.1) e.2.2.2.2.2
 | .move => moveL m e.2.2.2.1 e.2.2.2.2.1 e.2.2.1.1 e.2.2.2.2.2
 | _ => m
def goodsE (b : Bk) (g : Gd) : Nat := if 0 ≤ findI nameG b.1 g.1 then 7 else if 30 ≤ b.1.length then 8 else 0
def goodsB (b : Bk) (g : Gd) : Bk := (insC nameG b.1 (g, zeroSu), b.2.1, b.2.2)
def lotBE (b : Bk) (l : Lo) : Nat := if 0 ≤ findI nameL b.2.1 l.1 then 7 else if findI nameG b.1 l.2.1 < 0 then 6 else if 60 ≤ b.2.1.length then 8 else 0
def lotB (b : Bk) (l : Lo) : Bk := (b.1, insC nameL b.2.1 (l, 0), b.2.2)
def pieceE (b : Bk) (e : En) (l : Lh) (g : Gs) : Nat :=
 if stkE e b.2.2 = 0 then
  (if heldN e.1 l.2 e.2.2.2.2.2 < 0 ∨ ofL (stkL e b.2.2) e.2.2.1.1 < heldN e.1 l.2 e.2.2.2.2.2 then 9 else if okSu (addSu e.1 g.2 e.2.2.2.2.2) then 0 else 2)
 else stkE e b.2.2
def pieceB (b : Bk) (e : En) (k : Nat) (l : Lh) (i : Nat) (g : Gs) : Bk := (b.1.set i (g.1, addSu e.1 g.2 e.2.2.2.2.2), b.2.1.set k (l.1, heldN e.1 l.2 e.2.2.2.2.2), stkL e b.2.2)
def doB (b : Bk) (e : En) : Bk × Nat :=
 if entErr e = 0 then
  (match kd e.1 with
  | .goods => if goodsE b e.2.1 = 0 then (goodsB b e.2.1, 0) else (b, goodsE b e.2.1)
  | .lot => if lotBE b e.2.2.1 = 0 then (lotB b e.2.2.1, 0) else (b, lotBE b e.2.2.1)
  | _ =>
   match b.2.1.findIdx? (fun l => decide (nameL l = e.2.2.1.1)) with
   | none => (b, 6)
   | some k =>
    match b.2.1[k]? with
    | none => (b, 6)
    | some l =>
     match b.1.findIdx? (fun g => decide (nameG g = l.1.2.1)) with
     | none => (b, 6)
     | some i =>
      match b.1[i]? with
      | none => (b, 6)
      | some g => if pieceE b e l g = 0 then (pieceB b e k l i g, 0) else (b, pieceE b e l g))
 else (b, entErr e)
structure WfB (b : Bk) : Prop where
 gl : b.1.length ≤ 30
 ll : b.2.1.length ≤ 60
 st : Wf b.2.2
 lots : ∀ l ∈ b.2.1, ∃ g ∈ b.1, nameG g = l.1.2.1
 sums : ∀ g ∈ b.1, (0 ≤ g.2.1 ∧ 0 ≤ g.2.2.1 ∧ 0 ≤ g.2.2.2.1 ∧ 0 ≤ g.2.2.2.2) ∧ okSu g.2 = true
 held : ∀ l ∈ b.2.1, 0 ≤ l.2 ∧ l.2 ≤ ofL b.2.2 l.1.1
theorem findI_idx {α : Type} {f : α → ByteArray} {m : List α} {c : ByteArray} {k : Nat} (h : findI f m c = (k : Int)) : m.findIdx? (fun x => decide (f x = c)) = some k := by
 unfold findI at h
 cases hh : m.findIdx? (fun x => decide (f x = c)) with
 | none => rw [hh] at h; simp only at h; omega
 | some j => rw [hh] at h; simp only at h; congr 1; omega
theorem findI_no {α : Type} {f : α → ByteArray} {m : List α} {c : ByteArray} (h : findI f m c < 0) : m.findIdx? (fun x => decide (f x = c)) = none := by
 unfold findI at h
 cases hh : m.findIdx? (fun x => decide (f x = c)) with
 | none => rfl
 | some j => rw [hh] at h; simp only at h; omega
theorem doB_err {b : Bk} {e : En} (he : entErr e ≠ 0) : doB b e = (b, entErr e) := by unfold doB; rw [if_neg he]
theorem doB_goods {b : Bk} {e : En} (he : entErr e = 0) (hk : e.1 = kGoods) : doB b e = if goodsE b e.2.1 = 0 then (goodsB b e.2.1, 0) else (b, goodsE b e.2.1) := by unfold doB; rw [if_pos he, hk, kd_goods]
theorem doB_lot {b : Bk} {e : En} (he : entErr e = 0) (hk : e.1 = kLot) : doB b e = if lotBE b e.2.2.1 = 0 then (lotB b e.2.2.1, 0) else (b, lotBE b e.2.2.1) := by unfold doB; rw [if_pos he, hk, kd_lot]
theorem piece_kind {k : ByteArray} (h1 : k ≠ kGoods) (h2 : k ≠ kLot) : kd k ≠ .goods ∧ kd k ≠ .lot := by
 rcases kind_cases k with h | h | (h | h) | (h | h) | h | (h | h) | h
 ·exact absurd h h1
 ·exact absurd h h2
 ·rw [h]; exact ⟨by nofun, by nofun⟩
 ·rw [h]; exact ⟨by nofun, by nofun⟩
 ·rw [h]; exact ⟨by nofun, by nofun⟩
 ·rw [h]; exact ⟨by nofun, by nofun⟩
 ·rw [h]; exact ⟨by nofun, by nofun⟩
 ·rw [h]; exact ⟨by nofun, by nofun⟩
 ·rw [h]; exact ⟨by nofun, by nofun⟩
 ·rw [h.kd]; exact ⟨by nofun, by nofun⟩
theorem doB_none {b : Bk} {e : En} (he : entErr e = 0) (h1 : e.1 ≠ kGoods) (h2 : e.1 ≠ kLot) (h : findI nameL b.2.1 e.2.2.1.1 < 0) : doB b e = (b, 6) := by
 obtain ⟨n1, n2⟩ := piece_kind h1 h2
 unfold doB
 rw [if_pos he]
 cases hd : kd e.1 with
 | goods => exact absurd hd n1
 | lot => exact absurd hd n2
 | _ => simp only [findI_no h]
theorem doB_at {b : Bk} {e : En} {k i : Nat} {l : Lh} {g : Gs} (he : entErr e = 0) (h1 : e.1 ≠ kGoods) (h2 : e.1 ≠ kLot) (hkL : findI nameL b.2.1 e.2.2.1.1 = (k : Int)) (hl : b.2.1[k]? = some l) (hiG : findI nameG b.1 l.1.2.1 = (i : Int)) (hg : b.1[i]? = some g) : doB b e = if pieceE b e l g = 0 then (pieceB b e k l i g, 0) else (b, pieceE b e l g) := by
 obtain ⟨n1, n2⟩ := piece_kind h1 h2
 unfold doB
 rw [if_pos he]
 cases hd : kd e.1 with
 | goods => exact absurd hd n1
 | lot => exact absurd hd n2
 | _ => simp only [findI_idx hkL, hl, findI_idx hiG, hg]
theorem piece_num {e : En} (he : entErr e = 0) (h1 : e.1 ≠ kGoods) (h2 : e.1 ≠ kLot) : 1 ≤ e.2.2.2.2.2 ∧ e.2.2.2.2.2 ≤ 1099511627776 := by
 have h0 := (entErr_own he).1
 obtain ⟨n1, n2⟩ := piece_kind h1 h2
 unfold ownErr at h0
 cases hd : kd e.1 with
 | goods => exact absurd hd n1
 | lot => exact absurd hd n2
 | other => rw [hd] at h0; simp at h0
 | _ => rw [hd] at h0; exact (pieceErr_zero h0).2.2.2
end Go.Proofs.YtpnmbomjnpheeaaGreatDoor
namespace Go.Proofs.YtpnmbomjnpheeaaGreatDoor
open Go.Lib Go.Sort
variable {α : Type}
theorem insC_nil (f : α → ByteArray) (x : α) : insC f [] x = [x] := rfl
theorem insC_cons (f : α → ByteArray) (y : α) (m : List α) (x : α) : insC f (y :: m) x = if zLt (f y) (f x) = true then y :: insC f m x else x :: y :: m := by
 unfold insC
 cases h : zLt (f y) (f x) with
 | true =>
  have e : aheadC f (f x) (y :: m) = aheadC f (f x) m + 1 := by unfold aheadC; rw [if_pos h]; cases m <;> rfl
  rw [e]; simp
 | false =>
  have e : aheadC f (f x) (y :: m) = 0 := by unfold aheadC; rw [if_neg (by rw [h]; decide)]
  rw [e]; simp
theorem insC_mem (f : α → ByteArray) : ∀ (m : List α) (x z : α), z ∈ insC f m x ↔ z = x ∨ z ∈ m
 | [], x, z => by rw [insC_nil]; simp
 | y :: m, x, z => by
  rw [insC_cons]
  split
  ·rw [List.mem_cons, insC_mem f m x z, List.mem_cons]
   constructor
   ·rintro (h | h | h)
    ·exact Or.inr (Or.inl h)
    ·exact Or.inl h
    ·exact Or.inr (Or.inr h)
   ·rintro (h | h | h)
    ·exact Or.inr (Or.inl h)
    ·exact Or.inl h
    ·exact Or.inr (Or.inr h)
  ·rw [List.mem_cons]
theorem insC_length (f : α → ByteArray) (m : List α) (x : α) : (insC f m x).length = m.length + 1 := by
 have := aheadC_le f (f x) m
 unfold insC
 rw [List.length_append, List.length_cons, List.length_take, List.length_drop]
 omega
theorem insC_sorted {f : α → ByteArray} : ∀ {m : List α} {x : α}, m.Pairwise (fun a b => zLt (f a) (f b) = true) → (∀ y ∈ m, f y ≠ f x) → (insC f m x).Pairwise (fun a b => zLt (f a) (f b) = true)
 | [], x, _, _ => by rw [insC_nil]; exact List.pairwise_singleton _ _
 | y :: m, x, hs, hn => by
  rw [insC_cons]
  obtain ⟨h1, h2⟩ := List.pairwise_cons.1 hs
  cases h : zLt (f y) (f x) with
  | true =>
   rw [if_pos rfl]
   refine List.pairwise_cons.2 ⟨fun z hz => ?_, insC_sorted h2 fun z hz => hn z (List.mem_cons_of_mem _ hz)⟩
   rcases (insC_mem f m x z).1 hz with rfl | hz
   ·exact h
   ·exact h1 z hz
  | false =>
   rw [if_neg (by decide)]
   have hxy : zLt (f x) (f y) = true := by
    cases h' : zLt (f x) (f y) with
    | true => rfl
    | false => exact absurd (zLt_total h h') (hn y (List.mem_cons_self ..))
   refine List.pairwise_cons.2 ⟨fun z hz => ?_, hs⟩
   rcases List.mem_cons.1 hz with rfl | hz
   ·exact hxy
   ·exact zLt_trans hxy (h1 z hz)
theorem findI_neg {f : α → ByteArray} {m : List α} {c : ByteArray} (h : ¬ 0 ≤ findI f m c) : ∀ y ∈ m, f y ≠ c := by
 rcases findI_cases f m c with ⟨_, h'⟩ | ⟨i, x, h', _⟩
 ·exact h'
 ·omega
theorem findI_mem {f : α → ByteArray} {m : List α} {c : ByteArray} (h : ¬ findI f m c < 0) : ∃ y ∈ m, f y = c := by
 rcases findI_cases f m c with ⟨h', _⟩ | ⟨i, x, _, h1, h2⟩
 ·omega
 ·exact ⟨x, List.mem_of_getElem? h1, h2⟩
theorem set_map {β : Type} {f : α → β} {m : List α} {i : Nat} {x y : α} (hx : m[i]? = some x) (hf : f y = f x) : (m.set i y).map f = m.map f := by
 apply List.ext_getElem?
 intro j
 rw [List.getElem?_map, List.getElem?_map, List.getElem?_set]
 by_cases hj : i = j
 ·subst hj
  have hi := (List.getElem?_eq_some_iff.1 hx).1
  rw [if_pos rfl, if_pos hi, hx]
  simp [hf]
 ·rw [if_neg hj]
theorem sorted_map {f : α → ByteArray} {m : List α} : m.Pairwise (fun a b => zLt (f a) (f b) = true) ↔ (m.map f).Pairwise (fun a b => zLt a b = true) := by rw [List.pairwise_map]
theorem set_sorted {f : α → ByteArray} {m : List α} {i : Nat} {x y : α} (hs : m.Pairwise (fun a b => zLt (f a) (f b) = true)) (hx : m[i]? = some x) (hf : f y = f x) : (m.set i y).Pairwise (fun a b => zLt (f a) (f b) = true) := by
 rw [sorted_map, set_map hx hf, ← sorted_map]; exact hs
theorem sorted_ne {f : α → ByteArray} {m : List α} {i j : Nat} {x y : α} (hs : m.Pairwise (fun a b => zLt (f a) (f b) = true)) (hx : m[i]? = some x) (hy : m[j]? = some y) (hij : i ≠ j) : f x ≠ f y := by
 obtain ⟨hi, rfl⟩ := List.getElem?_eq_some_iff.1 hx
 obtain ⟨hj, rfl⟩ := List.getElem?_eq_some_iff.1 hy
 have hp := List.pairwise_iff_getElem.1 hs
 intro e
 rcases Nat.lt_or_ge i j with h | h
 ·have := hp i j hi hj h
  rw [e, zLt_irrefl] at this; cases this
 ·have := hp j i hj hi (by omega)
  rw [e, zLt_irrefl] at this; cases this
theorem stkL_wf {e : En} {m : List Ln} (h : Wf m) : Wf (stkL e m) := by
 unfold stkL
 cases kd e.1 with
 | tow => exact h.put _ _ _
 | frm => exact h.take _ _
 | move => exact h.move _ _ _ _
 | _ => exact h
theorem stkL_other {e : En} {m : List Ln} (h : Wf m) {c : ByteArray} (hc : c ≠ e.2.2.1.1) : ofL (stkL e m) c = ofL m c := by
 have key : ∀ (x : Pl) (n : Int), ofL (withL m (x, e.2.2.1.1) n) c = ofL m c := fun x n => by
  rw [withL_ofL h.sorted, if_neg (fun e9 => hc e9.symm)]; omega
 unfold stkL
 cases kd e.1 with
 | tow =>
  simp only
  unfold putL
  split
  ·exact key _ _
  ·rfl
 | frm =>
  simp only
  unfold takeL
  split
  ·exact key _ _
  ·rfl
 | move =>
  simp only
  unfold moveL
  split
  ·rw [withL_ofL (withL_sorted h.sorted _ _), if_neg (fun e9 => hc e9.symm), key]; omega
  ·rfl
 | _ => rfl
structure BkOk (b : Bk) : Prop where
 wf : WfB b
 gs : b.1.Pairwise (fun x y => zLt (nameG x) (nameG y) = true)
 ls : b.2.1.Pairwise (fun x y => zLt (nameL x) (nameL y) = true)
theorem BkOk.nil : BkOk ([], [], []) := ⟨⟨by decide, by decide, Wf.nil, by simp, by simp, by simp⟩, List.Pairwise.nil, List.Pairwise.nil⟩
theorem BkOk.goods {b : Bk} (h : BkOk b) {g : Gd} (h0 : goodsE b g = 0) : BkOk (goodsB b g) := by
 have h1 : ¬ 0 ≤ findI nameG b.1 g.1 := fun e => by unfold goodsE at h0; rw [if_pos e] at h0; omega
 have h2 : ¬ 30 ≤ b.1.length := fun e => by unfold goodsE at h0; rw [if_neg h1, if_pos e] at h0; omega
 refine ⟨⟨?_, h.wf.ll, h.wf.st, ?_, ?_, h.wf.held⟩, insC_sorted h.gs (findI_neg h1), h.ls⟩
 ·show (insC nameG b.1 (g, zeroSu)).length ≤ 30
  rw [insC_length]; omega
 ·intro l hl
  obtain ⟨x, hx, e⟩ := h.wf.lots l hl
  exact ⟨x, (insC_mem _ _ _ _).2 (Or.inr hx), e⟩
 ·intro x hx
  rcases (insC_mem nameG b.1 (g, zeroSu) x).1 hx with rfl | hx
  ·exact ⟨⟨Int.le_refl 0, Int.le_refl 0, Int.le_refl 0, Int.le_refl 0⟩, (by decide : okSu zeroSu = true)⟩
  ·exact h.wf.sums x hx
theorem BkOk.lot {b : Bk} (h : BkOk b) {l : Lo} (h0 : lotBE b l = 0) : BkOk (lotB b l) := by
 have h1 : ¬ 0 ≤ findI nameL b.2.1 l.1 := fun e => by unfold lotBE at h0; rw [if_pos e] at h0; omega
 have h2 : ¬ findI nameG b.1 l.2.1 < 0 := fun e => by unfold lotBE at h0; rw [if_neg h1, if_pos e] at h0; omega
 have h3 : ¬ 60 ≤ b.2.1.length := fun e => by unfold lotBE at h0; rw [if_neg h1, if_neg h2, if_pos e] at h0; omega
 refine ⟨⟨h.wf.gl, ?_, h.wf.st, ?_, h.wf.sums, ?_⟩, h.gs, insC_sorted h.ls (findI_neg h1)⟩
 ·show (insC nameL b.2.1 (l, 0)).length ≤ 60
  rw [insC_length]; omega
 ·intro x hx
  rcases (insC_mem nameL b.2.1 (l, 0) x).1 hx with rfl | hx
  ·exact findI_mem h2
  ·exact h.wf.lots x hx
 ·intro x hx
  rcases (insC_mem nameL b.2.1 (l, 0) x).1 hx with rfl | hx
  ·exact ⟨Int.le_refl _, (h.wf.st.of_bound _).1⟩
  ·exact h.wf.held x hx
theorem addSu_pos {k : ByteArray} {s : Su} {n : Int} (hn : 0 ≤ n) (h : 0 ≤ s.1 ∧ 0 ≤ s.2.1 ∧ 0 ≤ s.2.2.1 ∧ 0 ≤ s.2.2.2) : 0 ≤ (addSu k s n).1 ∧ 0 ≤ (addSu k s n).2.1 ∧ 0 ≤ (addSu k s n).2.2.1 ∧ 0 ≤ (addSu k s n).2.2.2 := by
 obtain ⟨h1, h2, h3, h4⟩ := h
 unfold addSu
 repeat' split
 all_goals
  refine ⟨?_, ?_, ?_, ?_⟩
  all_goals
   (try simp only)
   omega
theorem BkOk.piece {b : Bk} (h : BkOk b) {e : En} {k i : Nat} {l : Lh} {g : Gs} (hn : 0 ≤ e.2.2.2.2.2) (hl : b.2.1[k]? = some l) (hid : nameL l = e.2.2.1.1) (hg : b.1[i]? = some g) (h0 : pieceE b e l g = 0) : BkOk (pieceB b e k l i g) := by
 unfold pieceE at h0
 by_cases c0 : stkE e b.2.2 = 0
 ·rw [if_pos c0] at h0
  by_cases c1 : heldN e.1 l.2 e.2.2.2.2.2 < 0 ∨ ofL (stkL e b.2.2) e.2.2.1.1 < heldN e.1 l.2 e.2.2.2.2.2
  ·rw [if_pos c1] at h0; omega
  ·rw [if_neg c1] at h0
   cases c2 : okSu (addSu e.1 g.2 e.2.2.2.2.2) with
   | false => rw [c2] at h0; simp at h0
   | true =>
    unfold pieceB
    have mG : (b.1.set i (g.1, addSu e.1 g.2 e.2.2.2.2.2)).map nameG = b.1.map nameG := set_map hg rfl
    refine ⟨⟨?_, ?_, stkL_wf h.wf.st, ?_, ?_, ?_⟩, set_sorted h.gs hg rfl, set_sorted h.ls hl rfl⟩
    ·show (b.1.set i _).length ≤ 30
     rw [List.length_set]; exact h.wf.gl
    ·show (b.2.1.set k _).length ≤ 60
     rw [List.length_set]; exact h.wf.ll
    ·intro x hx
     have hc : ∃ y ∈ b.1, nameG y = x.1.2.1 := by
      rcases List.mem_or_eq_of_mem_set hx with hx | hx
      ·exact h.wf.lots x hx
      ·rw [hx]; exact h.wf.lots l (List.mem_of_getElem? hl)
     obtain ⟨y, hy, e9⟩ := hc
     have : x.1.2.1 ∈ (b.1.set i (g.1, addSu e.1 g.2 e.2.2.2.2.2)).map nameG := by
      rw [mG]; exact List.mem_map.2 ⟨y, hy, e9⟩
     obtain ⟨z, hz, e8⟩ := List.mem_map.1 this
     exact ⟨z, hz, e8⟩
    ·intro x hx
     rcases List.mem_or_eq_of_mem_set hx with hx | hx
     ·exact h.wf.sums x hx
     ·rw [hx]
      exact ⟨addSu_pos hn (h.wf.sums g (List.mem_of_getElem? hg)).1, c2⟩
    ·intro x hx
     obtain ⟨j, hj⟩ := List.getElem?_of_mem hx
     simp only at hj ⊢
     rw [List.getElem?_set] at hj
     by_cases hkj : k = j
     ·have hk' := (List.getElem?_eq_some_iff.1 hl).1
      rw [if_pos hkj, if_pos (by omega)] at hj
      injection hj with hj
      rw [← hj]
      have : l.1.1 = e.2.2.1.1 := hid
      simp only
      rw [this]
      omega
     ·rw [if_neg hkj] at hj
      have hne : x.1.1 ≠ e.2.2.1.1 := by
       have h9 := sorted_ne (f := nameL) h.ls hj hl (fun e9 => hkj e9.symm)
       rw [hid] at h9
       exact h9
      rw [stkL_other h.wf.st hne]
      exact h.wf.held x (List.mem_of_getElem? hj)
 ·rw [if_neg c0] at h0; exact absurd h0 c0
end Go.Proofs.YtpnmbomjnpheeaaGreatDoor
namespace Go.Proofs.YtpnmbomjnpheeaaGreatDoor
open Go.RowKit Go.Lib Go.Sort
structure Enc (α : Type) where
 k : Nat
 enc : α → List Value
 len : ∀ x, (enc x).length = k
 one : ∀ x, ∀ v ∈ enc x, v.oneCell' = true
variable {α : Type}
def Enc.flat (E : Enc α) (m : List α) : List Value := m.flatMap E.enc
theorem Enc.flat_append (E : Enc α) (a b : List α) : E.flat (a ++ b) = E.flat a ++ E.flat b := by unfold Enc.flat; rw [List.flatMap_append]
theorem Enc.flat_len (E : Enc α) (m : List α) : (E.flat m).length = m.length * E.k := by
 unfold Enc.flat
 induction m with
 | nil => simp
 | cons x m ih => rw [List.flatMap_cons, List.length_append, ih, E.len, List.length_cons, Nat.succ_mul]; omega
theorem Enc.flat_cell (E : Enc α) (m : List α) : ∀ v ∈ E.flat m, v.oneCell' = true := by
 intro v hv
 unfold Enc.flat at hv
 obtain ⟨x, _, h⟩ := List.mem_flatMap.1 hv
 exact E.one x v h
theorem Enc.flat_get (E : Enc α) : ∀ {m : List α} {i : Nat} {x : α} (c : Nat), m[i]? = some x → c < E.k → (E.flat m)[i * E.k + c]? = (E.enc x)[c]?
 | [], i, x, c, h, hc => by simp at h
 | y :: m, 0, x, c, h, hc => by
  obtain rfl : y = x := by simpa using h
  unfold Enc.flat
  rw [List.flatMap_cons, List.getElem?_append_left (by rw [E.len]; omega)]
  simp
 | y :: m, i + 1, x, c, h, hc => by
  have h' : m[i]? = some x := by simpa using h
  have ih := E.flat_get (m := m) c h' hc
  unfold Enc.flat at *
  rw [List.flatMap_cons, List.getElem?_append_right (by rw [E.len, Nat.succ_mul]; omega), E.len, ← ih]
  congr 1
  rw [Nat.succ_mul]; omega
theorem Enc.flat_take (E : Enc α) (m : List α) (n : Nat) (h : n ≤ m.length) : (E.flat m).take (n * E.k) = E.flat (m.take n) := by
 have e : m = m.take n ++ m.drop n := (List.take_append_drop n m).symm
 have hl : (E.flat (m.take n)).length = n * E.k := by rw [E.flat_len, List.length_take, Nat.min_eq_left h]
 conv => lhs; rw [e, E.flat_append]
 rw [← hl, List.take_left']
 rfl
theorem Enc.flat_drop (E : Enc α) (m : List α) (n : Nat) (h : n ≤ m.length) : (E.flat m).drop (n * E.k) = E.flat (m.drop n) := by
 have e : m = m.take n ++ m.drop n := (List.take_append_drop n m).symm
 have hl : (E.flat (m.take n)).length = n * E.k := by rw [E.flat_len, List.length_take, Nat.min_eq_left h]
 conv => lhs; rw [e, E.flat_append]
 rw [← hl, List.drop_left']
 rfl
def Enc.Row (E : Enc α) (w : World) (B : Nat) (T : TypeId) (v : Value) (m : List α) : Prop := w.ownsRow B T E.k v m.length (E.flat m)
theorem Enc.Row.nil (E : Enc α) (w : World) (B : Nat) (T : TypeId) : E.Row w B T (.slice none 0 0) [] := World.ownsRow_nil w B T E.k
theorem Enc.Row.forms {E : Enc α} {w : World} {B : Nat} {T : TypeId} {v : Value} {m : List α} (h : E.Row w B T v m) :
  (v = .slice none 0 0 ∧ m = []) ∨ ∃ g cap, v = .slice (some ⟨g, 0, none⟩) m.length cap ∧ B ≤ g ∧ g < w.heap.size ∧ m.length ≤ cap ∧ (∀ o, w.frozen? ⟨g, o, none⟩ = false) ∧ ∀ i x c, m[i]? = some x → c < E.k → w.cell? ⟨g, i * E.k + c, none⟩ = (E.enc x)[c]? := by
 have h0 := h
 rcases h.2 with ⟨h1, h2⟩ | ⟨g, cap, cur, rfl, hb, hg, hle, -, -, -⟩
 ·exact Or.inl ⟨h1, List.eq_nil_of_length_eq_zero h2⟩
 ·refine Or.inr ⟨g, cap, rfl, hb, (Array.getElem?_eq_some_iff.1 hg).1, hle, fun o => frozen_of_heap hg o, fun i x c hx hc => ?_⟩
  have hi := (List.getElem?_eq_some_iff.1 hx).1
  have hlt : i * E.k + c < m.length * E.k := by
   have : (i + 1) * E.k ≤ m.length * E.k := Nat.mul_le_mul_right _ hi
   rw [Nat.succ_mul] at this
   omega
  rw [World.ownsRow.cellAt h0 (i * E.k + c) hlt]
  exact E.flat_get c hx hc
theorem Enc.Row.kept {E : Enc α} {w w' : World} {B : Nat} {T : TypeId} {v : Value} {m : List α} (h : E.Row w B T v m) (hb : ∀ g, v.ownBlock = some g → w'.heap[g]? = w.heap[g]?) : E.Row w' B T v m := by
 refine ⟨h.1, ?_⟩
 rcases h.2 with h1 | ⟨g, cap, cur, rfl, h2, hg, h3⟩
 ·exact Or.inl h1
 ·exact Or.inr ⟨g, cap, cur, rfl, h2, (hb g rfl).trans hg, h3⟩
theorem Enc.Row.lt {E : Enc α} {w : World} {B : Nat} {T : TypeId} {v : Value} {m : List α} (h : E.Row w B T v m) {g : Nat} (hg : v.ownBlock = some g) : B ≤ g ∧ g < w.heap.size := World.ownsRow.lt h g hg
theorem Enc.Row.below {E : Enc α} {w w' : World} {B : Nat} {T : TypeId} {v : Value} {m : List α} (h : E.Row w B T v m) (hb : Below w.heap.size w w') : E.Row w' B T v m := h.kept fun g hg => hb.block g (h.lt hg).2
theorem Enc.Row.base {E : Enc α} {w : World} {B B' : Nat} {T : TypeId} {v : Value} {m : List α} (h : E.Row w B T v m) (hB : B' ≤ B) : E.Row w B' T v m := by
 refine ⟨h.1, ?_⟩
 rcases h.2 with h1 | ⟨g, cap, cur, rfl, h2, h3⟩
 ·exact Or.inl h1
 ·exact Or.inr ⟨g, cap, cur, rfl, Nat.le_trans hB h2, h3⟩
end Go.Proofs.YtpnmbomjnpheeaaGreatDoor
