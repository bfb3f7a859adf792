/-
 Plain mathematics of plans: pieces of a list taken from its head, what is left of it; what goes by a plan, and what is ready behind it.
-/
import Derived.Test.YtefkchmahcjleaaGreatDoorKMath
set_option maxRecDepth 100000
set_option maxHeartbeats 16000000
namespace Go.Proofs.YtefkchmahcjleaaGreatDoor
open Go.Lib Go.Sort
def takeP : List Ln → Int → List Ln
 | [], _ => []
 | p :: ps, n => if n = 0 then [] else (p.1, p.2.1, min p.2.2 n) :: takeP ps (n - min p.2.2 n)
def dropP : List Ln → Int → List Ln
 | [], _ => []
 | p :: ps, n => if p.2.2 ≤ n then dropP ps (n - p.2.2) else (p.1, p.2.1, p.2.2 - n) :: ps
def sumP (l : List Ln) : Int := (l.map fun p => p.2.2).sum
def PosP (l : List Ln) : Prop := ∀ p ∈ l, 1 ≤ p.2.2
def remK (l : List Ln) (k : Sp) : Int := (l.map fun p => if keyL p = k then p.2.2 else 0).sum
theorem sumP_cons (p : Ln) (l : List Ln) : sumP (p :: l) = p.2.2 + sumP l := by unfold sumP; simp
theorem sumP_app (l l' : List Ln) : sumP (l ++ l') = sumP l + sumP l' := by unfold sumP; simp
theorem remK_cons (p : Ln) (l : List Ln) (k : Sp) : remK (p :: l) k = (if keyL p = k then p.2.2 else 0) + remK l k := by unfold remK; simp
theorem remK_app (l l' : List Ln) (k : Sp) : remK (l ++ l') k = remK l k + remK l' k := by unfold remK; simp
theorem PosP.tail {p : Ln} {l : List Ln} (h : PosP (p :: l)) : PosP l := fun q hq => h q (List.mem_cons_of_mem _ hq)
theorem PosP.head {p : Ln} {l : List Ln} (h : PosP (p :: l)) : 1 ≤ p.2.2 := h p (List.mem_cons_self ..)
theorem sumP_nonneg : ∀ {l : List Ln}, PosP l → 0 ≤ sumP l
 | [], _ => by unfold sumP; simp
 | p :: l, h => by have := sumP_nonneg h.tail; have := h.head; rw [sumP_cons]; omega
theorem takeP_zero (l : List Ln) : takeP l 0 = [] := by cases l <;> rfl
theorem takeP_cons {p : Ln} {l : List Ln} {n : Int} (hn : n ≠ 0) : takeP (p :: l) n = (p.1, p.2.1, min p.2.2 n) :: takeP l (n - min p.2.2 n) := by
 show (if n = 0 then [] else _) = _
 rw [if_neg hn]
theorem takeP_pos : ∀ {l : List Ln} {n : Int}, PosP l → 0 ≤ n → PosP (takeP l n)
 | [], _, _, _ => by intro q hq; cases hq
 | p :: l, n, h, hn => by
  by_cases h0 : n = 0
  ·rw [h0, takeP_zero]; intro q hq; cases hq
  ·rw [takeP_cons h0]
   intro q hq
   have := h.head
   rcases List.mem_cons.1 hq with rfl | hq
   ·show 1 ≤ min p.2.2 n; omega
   ·exact takeP_pos h.tail (by omega) q hq
theorem takeP_sum : ∀ {l : List Ln} {n : Int}, PosP l → 0 ≤ n → sumP (takeP l n) = min (sumP l) n
 | [], n, _, hn => by show sumP [] = min (sumP []) n; unfold sumP; simp; omega
 | p :: l, n, h, hn => by
  have h1 := h.head
  have h2 := sumP_nonneg h.tail
  by_cases h0 : n = 0
  ·rw [h0, takeP_zero, sumP_cons]
   have : sumP [] = 0 := rfl
   omega
  ·rw [takeP_cons h0, sumP_cons, sumP_cons, takeP_sum h.tail (by omega)]
   show min p.2.2 n + _ = _
   omega
theorem takeP_app : ∀ {l l' : List Ln} {n : Int}, PosP l → 0 ≤ n → takeP (l ++ l') n = takeP l n ++ takeP l' (n - min (sumP l) n)
 | [], l', n, _, hn => by
  have : sumP [] = 0 := rfl
  show takeP l' n = [] ++ takeP l' _
  rw [this, List.nil_append, show n - min 0 n = n by omega]
 | p :: l, l', n, h, hn => by
  have h1 := h.head
  have h2 := sumP_nonneg h.tail
  by_cases h0 : n = 0
  ·subst h0
   rw [takeP_zero, takeP_zero, sumP_cons, show (0 : Int) - min (p.2.2 + sumP l) 0 = 0 by omega, takeP_zero]; rfl
  ·rw [List.cons_append, takeP_cons h0, takeP_cons h0, takeP_app h.tail (by omega), sumP_cons, List.cons_append]
   congr 3
   omega
theorem dropP_zero : ∀ {l : List Ln}, PosP l → dropP l 0 = l
 | [], _ => rfl
 | p :: l, h => by
  have := h.head
  show (if p.2.2 ≤ 0 then _ else _) = _
  rw [if_neg (by omega), show p.2.2 - 0 = p.2.2 by omega]
theorem dropP_pos : ∀ {l : List Ln} {n : Int}, PosP l → PosP (dropP l n)
 | [], _, _ => by intro q hq; cases hq
 | p :: l, n, h => by
  show PosP (if p.2.2 ≤ n then _ else _)
  by_cases h0 : p.2.2 ≤ n
  ·rw [if_pos h0]; exact dropP_pos h.tail
  ·rw [if_neg h0]
   intro q hq
   rcases List.mem_cons.1 hq with rfl | hq
   ·show 1 ≤ p.2.2 - n; omega
   ·exact h.tail q hq
theorem dropP_full : ∀ {l : List Ln} {n : Int}, PosP l → sumP l ≤ n → dropP l n = []
 | [], _, _, _ => rfl
 | p :: l, n, h, hn => by
  have h2 := sumP_nonneg h.tail
  rw [sumP_cons] at hn
  show (if p.2.2 ≤ n then _ else _) = _
  rw [if_pos (by omega)]
  exact dropP_full h.tail (by omega)
theorem dropP_app : ∀ {l l' : List Ln} {n : Int}, PosP l → PosP l' → 0 ≤ n → dropP (l ++ l') n = dropP l n ++ dropP l' (n - min (sumP l) n)
 | [], l', n, _, _, hn => by
  have : sumP [] = 0 := rfl
  show dropP l' n = [] ++ dropP l' _
  rw [this, List.nil_append, show n - min 0 n = n by omega]
 | p :: l, l', n, h, h', hn => by
  have h1 := h.head
  have h2 := sumP_nonneg h.tail
  show (if p.2.2 ≤ n then _ else _) = (if p.2.2 ≤ n then _ else _) ++ _
  by_cases h0 : p.2.2 ≤ n
  ·rw [if_pos h0, if_pos h0]
   show dropP (l ++ l') _ = _
   rw [dropP_app h.tail h' (by omega), sumP_cons]
   congr 2
   omega
  ·rw [if_neg h0, if_neg h0, sumP_cons, show n - min (p.2.2 + sumP l) n = 0 by omega, dropP_zero h']; rfl
theorem take_drop : ∀ {l : List Ln} {r c : Int}, PosP l → 0 ≤ r → r ≤ c → takeP (dropP l r) (c - r) = dropP (takeP l c) r
 | [], _, _, _, _, _ => rfl
 | p :: l, r, c, h, hr, hc => by
  have h1 := h.head
  by_cases h0 : c = 0
  ·have hr0 : r = 0 := by omega
   subst h0 hr0
   rw [takeP_zero, dropP_zero h]
   show takeP _ (0 - 0) = _
   rw [show (0 : Int) - 0 = 0 by omega, takeP_zero]; rfl
  ·rw [takeP_cons h0]
   show takeP (if p.2.2 ≤ r then _ else _) _ = (if min p.2.2 c ≤ r then _ else _)
   by_cases h2 : p.2.2 ≤ r
   ·have e : min p.2.2 c = p.2.2 := by omega
    rw [if_pos h2, e, if_pos h2, show c - r = (c - p.2.2) - (r - p.2.2) by omega]
    exact take_drop h.tail (by omega) (by omega)
   ·by_cases h3 : r = c
    ·subst h3
     rw [if_neg h2, show r - r = 0 by omega, takeP_zero, if_pos (by omega), show min p.2.2 r = r by omega, show r - r = 0 by omega, takeP_zero]; rfl
    ·rw [if_neg h2, if_neg (by omega), takeP_cons (by omega)]
     show (p.1, p.2.1, min (p.2.2 - r) (c - r)) :: _ = (p.1, p.2.1, min p.2.2 c - r) :: _
     rw [show min (p.2.2 - r) (c - r) = min p.2.2 c - r by omega, show c - r - (min p.2.2 c - r) = c - min p.2.2 c by omega]
theorem remK_none {l : List Ln} {k : Sp} (h : ∀ p ∈ l, keyL p ≠ k) : remK l k = 0 := by
 induction l with
 | nil => rfl
 | cons p l ih => rw [remK_cons, if_neg (h p (List.mem_cons_self ..)), ih fun q hq => h q (List.mem_cons_of_mem _ hq)]; rfl
theorem takeP_keys : ∀ {l : List Ln} {n : Int} {q : Ln}, q ∈ takeP l n → ∃ p ∈ l, keyL p = keyL q ∧ q.2.2 ≤ p.2.2
 | [], _, _, h => by cases h
 | p :: l, n, q, h => by
  by_cases h0 : n = 0
  ·rw [h0, takeP_zero] at h; cases h
  ·rw [takeP_cons h0] at h
   rcases List.mem_cons.1 h with rfl | h
   ·exact ⟨p, List.mem_cons_self .., rfl, by show min p.2.2 n ≤ _; omega⟩
   ·obtain ⟨p', h1, h2⟩ := takeP_keys h
    exact ⟨p', List.mem_cons_of_mem _ h1, h2⟩
theorem dropP_sorted : ∀ {l : List Ln} {n : Int}, Sorted l → Sorted (dropP l n)
 | [], _, _ => List.Pairwise.nil
 | p :: l, n, h => by
  show Sorted (if p.2.2 ≤ n then _ else _)
  by_cases h0 : p.2.2 ≤ n
  ·rw [if_pos h0]; exact dropP_sorted h.tail
  ·rw [if_neg h0]
   exact List.pairwise_cons.2 ⟨fun x hx => h.head x hx, h.tail⟩
theorem take_at : ∀ {l : List Ln} {n : Int} (k : Sp), Sorted l → PosP l → 0 ≤ n → atL (dropP l n) k + remK (takeP l n) k = atL l k
 | [], _, _, _, _, _ => rfl
 | p :: l, n, k, hs, h, hn => by
  have h1 := h.head
  have hk : ∀ x ∈ l, keyL x ≠ keyL p := fun x hx e => by
   have := hs.head x hx
   rw [aheadN_key] at this
   exact aheadK_ne this e.symm
  by_cases h0 : n = 0
  ·subst h0
   rw [takeP_zero, dropP_zero h]
   have : remK [] k = 0 := rfl
   omega
  ·rw [takeP_cons h0, remK_cons]
   have hkp : keyL ((p.1, p.2.1, min p.2.2 n) : Ln) = keyL p := rfl
   rw [hkp]
   show atL (if p.2.2 ≤ n then _ else _) k + _ = _
   by_cases h2 : p.2.2 ≤ n
   ·rw [if_pos h2]
    have e : min p.2.2 n = p.2.2 := by omega
    have ih := take_at (n := n - p.2.2) k hs.tail h.tail (by omega)
    rw [e]
    by_cases hkk : keyL p = k
    ·rw [if_pos hkk, atL_cons_hit hkk]
     rw [atL_none (m := l) fun x hx => fun e9 => hk x hx (e9.trans hkk.symm)] at ih
     show _ + (p.2.2 + _) = _
     omega
    ·rw [if_neg hkk, atL_cons_miss hkk]; omega
   ·rw [if_neg h2]
    have e : min p.2.2 n = n := by omega
    rw [e, show n - n = 0 by omega, takeP_zero]
    have z : remK [] k = 0 := rfl
    by_cases hkk : keyL p = k
    ·rw [if_pos hkk, atL_cons_hit hkk, atL_cons_hit (show keyL ((p.1, p.2.1, p.2.2 - n) : Ln) = k from hkk), z]
     show p.2.2 - n + (n + 0) = _
     omega
    ·rw [if_neg hkk, atL_cons_miss hkk, atL_cons_miss (show keyL ((p.1, p.2.1, p.2.2 - n) : Ln) ≠ k from hkk), z]; omega
theorem pos_ext {m m' : List Ln} (h : Sorted m) (h' : Sorted m') (hp : PosP m) (hp' : PosP m') (he : ∀ k, atL m k = atL m' k) : m = m' := by
 have key : ∀ {m m' : List Ln}, Sorted m → PosP m → (∀ k, atL m k = atL m' k) → ∀ l, l ∈ m → l ∈ m' := fun {m m'} h hp he l hl => by
  have h1 := atL_mem h.keys hl
  have h2 := hp l hl
  have h3 := mem_of_atL (m := m') (k := keyL l) (by rw [← he, h1]; omega)
  rw [← he, h1] at h3
  exact h3
 exact sorted_ext h h' fun l => ⟨key h hp he l, key h' hp' (fun k => (he k).symm) l⟩
def linesOf (m : List Ln) (c : ByteArray) : List Ln := m.filter fun l => decide (l.2.1 = c)
theorem linesOf_sorted {m : List Ln} (h : Sorted m) (c : ByteArray) : Sorted (linesOf m c) := h.filter _
theorem linesOf_sum : ∀ (m : List Ln) (c : ByteArray), sumP (linesOf m c) = ofL m c
 | [], _ => rfl
 | l :: m, c => by
  rw [ofL_cons, ← linesOf_sum m c]
  unfold linesOf
  rw [List.filter_cons]
  by_cases h : l.2.1 = c
  ·rw [if_pos (by simpa using h), if_pos h, sumP_cons]
  ·rw [if_neg (by simpa using h), if_neg h]; omega
theorem linesOf_at (m : List Ln) (c : ByteArray) (k : Sp) : atL (linesOf m c) k = if k.2 = c then atL m k else 0 := by
 induction m with
 | nil => unfold linesOf; simp [atL_nil]
 | cons l m ih =>
  unfold linesOf at *
  rw [List.filter_cons]
  by_cases h : l.2.1 = c
  ·rw [if_pos (by simpa using h)]
   by_cases hk : keyL l = k
   ·rw [atL_cons_hit hk, atL_cons_hit hk, if_pos (by rw [← hk]; exact h)]
   ·rw [atL_cons_miss hk, atL_cons_miss hk, ih]
  ·rw [if_neg (by simpa using h), ih]
   by_cases hk : keyL l = k
   ·rw [if_neg (by rw [← hk]; exact h), if_neg (by rw [← hk]; exact h)]
   ·rw [atL_cons_miss hk]
def readyL (m : List Ln) : List (ByteArray × Int) → List Ln
 | [] => []
 | (c, h) :: ls => takeP (linesOf m c) (ofL m c - h) ++ readyL m ls
theorem readyL_pos {m : List Ln} (hm : PosP m) : ∀ {ls : List (ByteArray × Int)}, (∀ x ∈ ls, 0 ≤ x.2 ∧ x.2 ≤ ofL m x.1) → PosP (readyL m ls)
 | [], _ => by intro q hq; cases hq
 | (c, h) :: ls, hx => by
  intro q hq
  rcases List.mem_append.1 hq with hq | hq
  ·refine takeP_pos (fun p hp => hm p (List.mem_filter.1 hp).1) ?_ q hq
   have := (hx (c, h) (List.mem_cons_self ..)).2
   show 0 ≤ ofL m c - h
   simp only at this
   omega
  ·exact readyL_pos hm (fun x h9 => hx x (List.mem_cons_of_mem _ h9)) q hq
theorem readyL_lots {m : List Ln} : ∀ {ls : List (ByteArray × Int)} {q : Ln}, q ∈ readyL m ls → (∃ x ∈ ls, x.1 = q.2.1) ∧ ∃ p ∈ m, keyL p = keyL q ∧ q.2.2 ≤ p.2.2
 | [], _, h => by cases h
 | (c, h) :: ls, q, hq => by
  rcases List.mem_append.1 hq with hq | hq
  ·obtain ⟨p, hp, e, hle⟩ := takeP_keys hq
   obtain ⟨h1, h2⟩ := List.mem_filter.1 hp
   have h3 : p.2.1 = c := by simpa using h2
   refine ⟨⟨(c, h), List.mem_cons_self .., ?_⟩, p, h1, e, hle⟩
   have : p.2.1 = q.2.1 := congrArg Prod.snd e
   rw [← this, h3]
  ·obtain ⟨⟨x, hx, e⟩, h2⟩ := readyL_lots hq
   exact ⟨⟨x, List.mem_cons_of_mem _ hx, e⟩, h2⟩
theorem dropP_sum : ∀ {l : List Ln} {n : Int}, PosP l → 0 ≤ n → sumP (dropP l n) = sumP l - min (sumP l) n
 | [], n, _, hn => by show sumP [] = sumP [] - min (sumP []) n; have : sumP [] = 0 := rfl; omega
 | p :: l, n, h, hn => by
  have h1 := h.head
  have h2 := sumP_nonneg h.tail
  show sumP (if p.2.2 ≤ n then _ else _) = _
  by_cases h0 : p.2.2 ≤ n
  ·rw [if_pos h0, dropP_sum h.tail (by omega), sumP_cons]; omega
  ·rw [if_neg h0, sumP_cons, sumP_cons]
   show p.2.2 - n + _ = _
   omega
theorem take_take : ∀ {l : List Ln} {c a : Int}, PosP l → 0 ≤ c → 0 ≤ a → takeP (takeP l c) a = takeP l (min c a)
 | [], _, _, _, _, _ => rfl
 | p :: l, c, a, h, hc, ha => by
  have h1 := h.head
  by_cases h0 : c = 0
  ·subst h0
   rw [takeP_zero, show min (0 : Int) a = 0 by omega, takeP_zero]; rfl
  ·by_cases h2 : a = 0
   ·subst h2
    rw [takeP_zero, show min c (0 : Int) = 0 by omega, takeP_zero]
   ·rw [takeP_cons h0, takeP_cons h2, takeP_cons (by omega)]
    show (p.1, p.2.1, min (min p.2.2 c) a) :: takeP (takeP l _) (a - min (min p.2.2 c) a) = _
    have x1 : min (min p.2.2 c) a = min p.2.2 (min c a) := by omega
    have x2 : min (c - min p.2.2 c) (a - min p.2.2 (min c a)) = min c a - min p.2.2 (min c a) := by omega
    rw [take_take h.tail (by omega) (by omega), x1, x2]
theorem remK_nonneg : ∀ {l : List Ln} (k : Sp), PosP l → 0 ≤ remK l k
 | [], _, _ => Int.le_refl _
 | p :: l, k, h => by
  have := remK_nonneg k h.tail
  have := h.head
  rw [remK_cons]
  split <;> omega
theorem remK_take : ∀ {l : List Ln} {n : Int} (k : Sp), PosP l → 0 ≤ n → remK (takeP l n) k ≤ remK l k
 | [], _, _, _, _ => Int.le_refl _
 | p :: l, n, k, h, hn => by
  have h1 := h.head
  by_cases h0 : n = 0
  ·rw [h0, takeP_zero]; exact remK_nonneg k h
  ·rw [takeP_cons h0, remK_cons, remK_cons]
   have ih := remK_take (n := n - min p.2.2 n) k h.tail (by omega)
   have e : keyL ((p.1, p.2.1, min p.2.2 n) : Ln) = keyL p := rfl
   rw [e]
   by_cases hk : keyL p = k
   ·rw [if_pos hk, if_pos hk]
    show min p.2.2 n + _ ≤ _
    omega
   ·rw [if_neg hk, if_neg hk]; omega
theorem lot_take {m : List Ln} {c : ByteArray} {n : Int} {k : Sp} (hk : k.2 ≠ c) : remK (takeP (linesOf m c) n) k = 0 := by
 refine remK_none fun p hp e => hk ?_
 obtain ⟨q, hq, e1, _⟩ := takeP_keys hp
 have h2 : q.2.1 = c := by simpa using (List.mem_filter.1 hq).2
 rw [← e, ← e1]; exact h2
theorem lots_take {m : List Ln} {ls : List (ByteArray × Int)} {n : Int} {k : Sp} (hk : ∀ x ∈ ls, x.1 ≠ k.2) : remK (takeP (readyL m ls) n) k = 0 := by
 refine remK_none fun p hp e => ?_
 obtain ⟨q, hq, e1, _⟩ := takeP_keys hp
 obtain ⟨⟨x, hx, e2⟩, _⟩ := readyL_lots hq
 refine hk x hx ?_
 rw [e2, ← e, ← e1]; rfl
structure LsOk (m : List Ln) (ls : List (ByteArray × Int)) : Prop where
 once : (ls.map fun x => x.1).Nodup
 held : ∀ x ∈ ls, 0 ≤ x.2 ∧ x.2 ≤ ofL m x.1
theorem LsOk.tail {m : List Ln} {x : ByteArray × Int} {ls : List (ByteArray × Int)} (h : LsOk m (x :: ls)) : LsOk m ls := ⟨(List.nodup_cons.1 h.once).2, fun y hy => h.held y (List.mem_cons_of_mem _ hy)⟩
theorem LsOk.head {m : List Ln} {x : ByteArray × Int} {ls : List (ByteArray × Int)} (h : LsOk m (x :: ls)) : ∀ y ∈ ls, y.1 ≠ x.1 := fun y hy e => (List.nodup_cons.1 h.once).1 (List.mem_map.2 ⟨y, hy, e⟩)
theorem ready_behind {m m' : List Ln} (hs : Sorted m) (hp : PosP m) (hs' : Sorted m') (hp' : PosP m') : ∀ {ls : List (ByteArray × Int)} {a : Int}, LsOk m ls → 0 ≤ a → (∀ k : Sp, (∃ x ∈ ls, x.1 = k.2) → atL m' k = atL m k - remK (takeP (readyL m ls) a) k) → readyL m' ls = dropP (readyL m ls) a
 | [], _, _, _, _ => rfl
 | (c, h) :: ls, a, hl, ha, hk => by
  have hh := hl.held (c, h) (List.mem_cons_self ..)
  simp only at hh
  have hFp : PosP (linesOf m c) := fun p hq => hp p (List.mem_filter.1 hq).1
  have hRp : PosP (readyL m ls) := readyL_pos hp hl.tail.held
  have hF := linesOf_sum m c
  obtain ⟨cap, hcap⟩ : ∃ cap, ofL m c - h = cap := ⟨_, rfl⟩
  have hLp : PosP (takeP (linesOf m c) cap) := takeP_pos hFp (by omega)
  have hLs : sumP (takeP (linesOf m c) cap) = cap := by rw [takeP_sum hFp (by omega)]; omega
  have e1 : readyL m ((c, h) :: ls) = takeP (linesOf m c) cap ++ readyL m ls := by rw [← hcap]; rfl
  rw [e1] at hk ⊢
  rw [takeP_app hLp ha, hLs] at hk
  rw [dropP_app hLp hRp ha, hLs]
  obtain ⟨r, hr⟩ : ∃ r, min cap a = r := ⟨_, rfl⟩
  rw [take_take hFp (by omega) ha, hr] at hk
  rw [hr]
  have hc : linesOf m' c = dropP (linesOf m c) r := by
   refine pos_ext (linesOf_sorted hs' c) (dropP_sorted (linesOf_sorted hs c)) (fun p hq => hp' p (List.mem_filter.1 hq).1) (dropP_pos hFp) fun k => ?_
   have h1 := take_at (n := r) k (linesOf_sorted hs c) hFp (by omega)
   rw [linesOf_at] at h1 ⊢
   by_cases hkc : k.2 = c
   ·rw [if_pos hkc] at h1 ⊢
    have h2 := hk k ⟨(c, h), List.mem_cons_self .., hkc.symm⟩
    rw [remK_app, lots_take (fun x hx e => hl.head x hx (e.trans hkc))] at h2
    omega
   ·rw [if_neg hkc] at h1 ⊢
    rw [lot_take hkc] at h1
    omega
  have ho : ofL m' c = ofL m c - r := by
   rw [← linesOf_sum m' c, hc, dropP_sum hFp (by omega), hF]; omega
  have e2 : readyL m' ((c, h) :: ls) = takeP (linesOf m' c) (ofL m' c - h) ++ readyL m' ls := rfl
  rw [e2, hc, ho, show ofL m c - r - h = cap - r by omega, take_drop hFp (by omega) (by omega)]
  have e3 : dropP (takeP (linesOf m c) cap) a = dropP (takeP (linesOf m c) cap) r := by
   by_cases hac : a ≤ cap
   ·rw [show r = a by omega]
   ·rw [dropP_full hLp (by omega), dropP_full hLp (by omega)]
  rw [e3]
  congr 1
  refine ready_behind hs hp hs' hp' hl.tail (by omega) fun k ⟨x, hx, e⟩ => ?_
  have h2 := hk k ⟨x, List.mem_cons_of_mem _ hx, e⟩
  rw [remK_app, lot_take (fun e9 => hl.head x hx (e.trans e9)), Int.zero_add] at h2
  exact h2
theorem ready_at {m : List Ln} (hs : Sorted m) (hp : PosP m) : ∀ {ls : List (ByteArray × Int)} (k : Sp), LsOk m ls → remK (readyL m ls) k ≤ (if ∃ x ∈ ls, x.1 = k.2 then atL m k else 0)
 | [], k, _ => by rw [if_neg (fun ⟨x, hx, _⟩ => by cases hx)]; exact Int.le_refl _
 | (c, h) :: ls, k, hl => by
  have hh := hl.held (c, h) (List.mem_cons_self ..)
  simp only at hh
  have hFp : PosP (linesOf m c) := fun p hq => hp p (List.mem_filter.1 hq).1
  show remK (takeP _ _ ++ _) k ≤ _
  rw [remK_app]
  by_cases hkc : k.2 = c
  ·rw [if_pos ⟨(c, h), List.mem_cons_self .., hkc.symm⟩]
   have h1 := take_at (n := ofL m c - h) k (linesOf_sorted hs c) hFp (by omega)
   rw [linesOf_at, if_pos hkc] at h1
   have h2 : remK (readyL m ls) k = 0 := remK_none fun p hq e => by
    obtain ⟨⟨x, hx, e2⟩, _⟩ := readyL_lots hq
    refine hl.head x hx (e2.trans ?_)
    rw [← hkc, ← e]; rfl
   have h3 : 0 ≤ atL (dropP (linesOf m c) (ofL m c - h)) k := by
    unfold atL
    split
    ·rename_i l hf
     have := dropP_pos hFp l (List.mem_of_find?_eq_some hf)
     omega
    ·exact Int.le_refl _
   omega
  ·rw [lot_take hkc]
   have ih := ready_at hs hp k hl.tail
   have e : (∃ x ∈ (c, h) :: ls, x.1 = k.2) ↔ ∃ x ∈ ls, x.1 = k.2 := by
    constructor
    ·rintro ⟨x, hx, e⟩
     rcases List.mem_cons.1 hx with rfl | hx
     ·exact absurd e.symm hkc
     ·exact ⟨x, hx, e⟩
    ·rintro ⟨x, hx, e⟩
     exact ⟨x, List.mem_cons_of_mem _ hx, e⟩
   by_cases h9 : ∃ x ∈ ls, x.1 = k.2
   ·rw [if_pos (e.2 h9)]
    rw [if_pos h9] at ih
    omega
   ·rw [if_neg fun h8 => h9 (e.1 h8)]
    rw [if_neg h9] at ih
    omega
def outsM : List Ln → List Ln → List Ln
 | m, [] => m
 | m, q :: p => outsM (withL m (keyL q) (atL m (keyL q) - q.2.2)) p
theorem outs_wf : ∀ {p m : List Ln}, Wf m → PosP p → (∀ k, remK p k ≤ atL m k) → Wf (outsM m p) ∧ ∀ k, atL (outsM m p) k = atL m k - remK p k
 | [], m, h, _, _ => ⟨h, fun k => by show atL m k = atL m k - remK [] k; have : remK [] k = 0 := rfl; omega⟩
 | q :: p, m, h, hp, hk => by
  have h1 := hp.head
  have h2 := hk (keyL q)
  have h3 := remK_nonneg (keyL q) hp.tail
  rw [remK_cons, if_pos rfl] at h2
  have hw : Wf (withL m (keyL q) (atL m (keyL q) - q.2.2)) := h.less h1 (by omega)
  have hk' : ∀ k, remK p k ≤ atL (withL m (keyL q) (atL m (keyL q) - q.2.2)) k := fun k => by
   have := hk k
   rw [remK_cons] at this
   rw [withL_atL]
   by_cases e : k = keyL q
   ·rw [if_pos e]
    subst e
    omega
   ·rw [if_neg e]
    rw [if_neg fun e9 => e e9.symm] at this
    omega
  obtain ⟨i1, i2⟩ := outs_wf hw hp.tail hk'
  refine ⟨i1, fun k => ?_⟩
  show atL (outsM _ p) k = _
  rw [i2, withL_atL, remK_cons]
  by_cases e : k = keyL q
  ·subst e
   rw [if_pos rfl, if_pos rfl]; omega
  ·rw [if_neg e, if_neg fun e9 => e e9.symm]; omega
end Go.Proofs.YtefkchmahcjleaaGreatDoor
