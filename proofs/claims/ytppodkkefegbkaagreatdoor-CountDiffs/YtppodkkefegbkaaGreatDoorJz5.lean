/-
 Plain mathematics of a stock as a list of lines in order: pieces at a place, pieces of a lot, a line set anew, what comes, goes and moves; no program is named h
-/
import Derived.Test.YtppodkkefegbkaaGreatDoorJz3
import Derived.Test.YtppodkkefegbkaaGreatDoorJz2
import Derived.Test.YtppodkkefegbkaaGreatDoorJz4
import Derived.DeepKeys4
import Derived.BigRegion
import Derived.BigQuiet
import Derived.WalkKit
set_option maxRecDepth 100000
set_option maxHeartbeats 16000000
namespace Go.Proofs.YtppodkkefegbkaaGreatDoor
open Go.Lib Go.Sort
abbrev Sp := Pl × ByteArray
abbrev Ln := Pl × ByteArray × Int
def keyL (l : Ln) : Sp := (l.1, l.2.1)
def cmpK (x y : Sp) : Int := or2 (cmpP x.1 y.1) (cmpZ x.2 y.2)
def aheadK (x y : Sp) : Bool := decide (cmpK x y < 0)
def cmpN (x y : Ln) : Int := cmpK (keyL x) (keyL y)
def aheadN (x y : Ln) : Bool := decide (cmpN x y < 0)
theorem aheadN_key (x y : Ln) : aheadN x y = aheadK (keyL x) (keyL y) := rfl
def aheadKW (x y : Sp) : Prop := aheadW x.1 y.1 ∨ (x.1 = y.1 ∧ zLt x.2 y.2 = true)
theorem cmpP_self (x : Pl) : cmpP x x = 0 := by
 unfold cmpP or3 bays
 rw [cmpZ_self]
 rcases cmpI_cases x.2.1 x.2.1 with ⟨h, _⟩ | ⟨h, _⟩ | ⟨_, h⟩
 ·omega
 ·omega
 ·rcases cmpI_cases x.2.2 x.2.2 with ⟨h', _⟩ | ⟨h', _⟩ | ⟨_, h'⟩
  ·omega
  ·omega
  ·rw [h]; simp [h']
theorem cmpP_zero {x y : Pl} (h : cmpP x y = 0) : x = y := by
 obtain ⟨a, r, b⟩ := x
 obtain ⟨a', r', b'⟩ := y
 unfold cmpP or3 bays at h
 simp only at h
 rcases cmpZ_cases a a' with ⟨h1, h2, h3, h4⟩ | ⟨h1, h2, h3, h4⟩ | ⟨h1, h2, h3, h4⟩
 ·rw [h4] at h; simp at h
 ·rw [h4] at h; simp at h
 ·subst h3
  rw [h4] at h
  rcases cmpI_cases r r' with ⟨k1, k2⟩ | ⟨k1, k2⟩ | ⟨k1, k2⟩
  ·rw [k2] at h; simp at h
  ·rw [k2] at h; simp at h
  ·subst k1
   rw [k2] at h
   by_cases hp : r.tmod 2 = 0
   ·rcases cmpI_cases b' b with ⟨m1, m2⟩ | ⟨m1, m2⟩ | ⟨m1, m2⟩ <;> simp [hp, m2] at h
    subst m1; rfl
   ·rcases cmpI_cases b b' with ⟨m1, m2⟩ | ⟨m1, m2⟩ | ⟨m1, m2⟩ <;> simp [hp, m2] at h
    subst m1; rfl
theorem aheadK_iff (x y : Sp) : aheadK x y = true ↔ aheadKW x y := by
 obtain ⟨p, a⟩ := x
 obtain ⟨q, b⟩ := y
 unfold aheadK aheadKW cmpK or2
 simp only [decide_eq_true_eq]
 by_cases h : p = q
 ·subst h
  rw [if_pos (cmpP_self p)]
  rcases cmpZ_cases a b with ⟨h1, h2, h3, h4⟩ | ⟨h1, h2, h3, h4⟩ | ⟨h1, h2, h3, h4⟩ <;> simp [h4, h1, aheadW_irrefl]
 ·rw [if_neg (fun e => h (cmpP_zero e))]
  have := aheadP_iff p q
  unfold aheadP at this
  simp only [decide_eq_true_eq] at this
  rw [this]
  simp [h]
theorem aheadK_no (x y : Sp) : aheadK x y = false ↔ ¬ aheadKW x y := by rw [← aheadK_iff]; simp
theorem aheadKW_irrefl (x : Sp) : ¬ aheadKW x x := by
 unfold aheadKW; rw [zLt_irrefl]
 rintro (h | ⟨_, h⟩)
 ·exact aheadW_irrefl _ h
 ·cases h
theorem aheadKW_trans {x y z : Sp} (h : aheadKW x y) (h' : aheadKW y z) : aheadKW x z := by
 unfold aheadKW at *
 rcases h with h | ⟨e, h⟩
 ·rcases h' with h' | ⟨e', h'⟩
  ·exact Or.inl (aheadW_trans h h')
  ·exact Or.inl (e' ▸ h)
 ·rcases h' with h' | ⟨e', h'⟩
  ·exact Or.inl (e.symm ▸ h')
  ·exact Or.inr ⟨e.trans e', zLt_trans h h'⟩
theorem aheadKW_total (x y : Sp) : aheadKW x y ∨ aheadKW y x ∨ x = y := by
 obtain ⟨p, a⟩ := x
 obtain ⟨q, b⟩ := y
 unfold aheadKW
 simp only
 rcases aheadW_total p q with h | h | rfl
 ·exact Or.inl (Or.inl h)
 ·exact Or.inr (Or.inl (Or.inl h))
 ·rcases cmpZ_cases a b with ⟨h1, h2, h3, h4⟩ | ⟨h1, h2, h3, h4⟩ | ⟨h1, h2, h3, h4⟩
  ·exact Or.inl (Or.inr ⟨rfl, h1⟩)
  ·exact Or.inr (Or.inl (Or.inr ⟨rfl, h2⟩))
  ·subst h3; exact Or.inr (Or.inr rfl)
theorem aheadK_irrefl (x : Sp) : aheadK x x = false := (aheadK_no x x).2 (aheadKW_irrefl x)
theorem aheadK_trans {x y z : Sp} (h : aheadK x y = true) (h' : aheadK y z = true) : aheadK x z = true := (aheadK_iff x z).2 (aheadKW_trans ((aheadK_iff x y).1 h) ((aheadK_iff y z).1 h'))
theorem aheadK_total {x y : Sp} (h : aheadK x y = false) (hne : x ≠ y) : aheadK y x = true := by
 rw [aheadK_no] at h
 rcases aheadKW_total x y with k | k | k
 ·exact absurd k h
 ·exact (aheadK_iff y x).2 k
 ·exact absurd k hne
def Sorted (m : List Ln) : Prop := m.Pairwise fun a b => aheadN a b = true
def atL (m : List Ln) (k : Sp) : Int := match m.find? (fun l => decide (keyL l = k)) with | some l => l.2.2 | none => 0
def ofL (m : List Ln) (lot : ByteArray) : Int := (m.map fun l => if l.2.1 = lot then l.2.2 else 0).sum
def without (m : List Ln) (k : Sp) : List Ln := m.filter fun l => decide (keyL l ≠ k)
def insN (x : Ln) : List Ln → List Ln
 | [] => [x]
 | l :: r => if aheadN x l then x :: l :: r else l :: insN x r
def withL (m : List Ln) (k : Sp) (n : Int) : List Ln := if n = 0 then without m k else insN (k.1, k.2, n) (without m k)
theorem atL_cons_hit {l : Ln} {m : List Ln} {k : Sp} (h : keyL l = k) : atL (l :: m) k = l.2.2 := by unfold atL; rw [List.find?_cons, decide_eq_true h]
theorem atL_cons_miss {l : Ln} {m : List Ln} {k : Sp} (h : keyL l ≠ k) : atL (l :: m) k = atL m k := by unfold atL; rw [List.find?_cons, decide_eq_false h]
theorem ofL_nil (c : ByteArray) : ofL [] c = 0 := rfl
theorem ofL_cons (l : Ln) (m : List Ln) (c : ByteArray) : ofL (l :: m) c = (if l.2.1 = c then l.2.2 else 0) + ofL m c := by unfold ofL; simp
theorem ofL_append (m m' : List Ln) (c : ByteArray) : ofL (m ++ m') c = ofL m c + ofL m' c := by unfold ofL; simp
theorem ofL_perm {m m' : List Ln} (h : m.Perm m') (c : ByteArray) : ofL m c = ofL m' c := by
 induction h with
 | nil => rfl
 | cons x _ ih => rw [ofL_cons, ofL_cons, ih]
 | swap x y l => rw [ofL_cons, ofL_cons, ofL_cons, ofL_cons]; omega
 | trans _ _ h1 h2 => rw [h1, h2]
theorem atL_none {m : List Ln} {k : Sp} (h : ∀ l ∈ m, keyL l ≠ k) : atL m k = 0 := by
 unfold atL
 rw [List.find?_eq_none.2 (fun l hl => by simp [h l hl])]
theorem Sorted.keys {m : List Ln} (h : Sorted m) : (m.map keyL).Nodup := by
 unfold List.Nodup
 rw [List.pairwise_map]
 exact h.imp (fun hab e => by rw [aheadN_key, e, aheadK_irrefl] at hab; cases hab)
theorem Sorted.tail {l : Ln} {m : List Ln} (h : Sorted (l :: m)) : Sorted m := (List.pairwise_cons.1 h).2
theorem Sorted.head {l : Ln} {m : List Ln} (h : Sorted (l :: m)) : ∀ x ∈ m, aheadN l x = true := (List.pairwise_cons.1 h).1
theorem atL_mem : ∀ {m : List Ln}, (m.map keyL).Nodup → ∀ {l : Ln}, l ∈ m → atL m (keyL l) = l.2.2
 | x :: m, hn, l, hl => by
  obtain ⟨h1, h2⟩ : keyL x ∉ m.map keyL ∧ (m.map keyL).Nodup := List.nodup_cons.1 hn
  rcases List.mem_cons.1 hl with rfl | h
  ·exact atL_cons_hit rfl
  ·rw [atL_cons_miss (fun e => h1 (by rw [e]; exact List.mem_map.2 ⟨l, h, rfl⟩))]
   exact atL_mem h2 h
theorem mem_of_atL {m : List Ln} {k : Sp} (h : atL m k ≠ 0) : (k.1, k.2, atL m k) ∈ m := by
 unfold atL at *
 cases hf : m.find? (fun l => decide (keyL l = k)) with
 | none => rw [hf] at h; exact absurd rfl h
 | some l =>
  have h1 := List.mem_of_find?_eq_some hf
  have h2 := List.find?_some hf
  simp only [decide_eq_true_eq] at h2
  rw [← h2]
  exact h1
theorem mem_without {m : List Ln} {k : Sp} {l : Ln} : l ∈ without m k ↔ l ∈ m ∧ keyL l ≠ k := by unfold without; simp
theorem without_sorted {m : List Ln} (h : Sorted m) (k : Sp) : Sorted (without m k) := h.filter _
theorem without_same {m : List Ln} {k : Sp} (h : ∀ l ∈ m, keyL l ≠ k) : without m k = m := List.filter_eq_self.2 fun l hl => by simpa using h l hl
theorem without_atL {m : List Ln} (k k' : Sp) (h : k' ≠ k) : atL (without m k) k' = atL m k' := by
 induction m with
 | nil => rfl
 | cons l m ih =>
  unfold without at *
  by_cases hk : keyL l = k
  ·rw [List.filter_cons_of_neg (by simp [hk]), ih, atL_cons_miss (by rw [hk]; exact fun e => h e.symm)]
  ·rw [List.filter_cons_of_pos (by simp [hk])]
   by_cases hk' : keyL l = k'
   ·rw [atL_cons_hit hk', atL_cons_hit hk']
   ·rw [atL_cons_miss hk', atL_cons_miss hk', ih]
theorem without_self (m : List Ln) (k : Sp) : atL (without m k) k = 0 := atL_none fun _ hl => (mem_without.1 hl).2
theorem without_perm : ∀ {m : List Ln}, (m.map keyL).Nodup → ∀ {l : Ln}, l ∈ m → m.Perm (l :: without m (keyL l))
 | x :: m, hn, l, hl => by
  obtain ⟨h1, h2⟩ : keyL x ∉ m.map keyL ∧ (m.map keyL).Nodup := List.nodup_cons.1 hn
  rcases List.mem_cons.1 hl with rfl | h
  ·unfold without
   rw [List.filter_cons_of_neg (by simp)]
   have : m.filter (fun y => decide (keyL y ≠ keyL l)) = m := List.filter_eq_self.2 fun y hy => by
    have : keyL y ≠ keyL l := fun e => h1 (by rw [← e]; exact List.mem_map.2 ⟨y, hy, rfl⟩)
    simpa using this
   rw [this]
  ·have hx : keyL x ≠ keyL l := fun e => h1 (by rw [e]; exact List.mem_map.2 ⟨l, h, rfl⟩)
   have ih := without_perm h2 h
   unfold without at *
   rw [List.filter_cons_of_pos (by simp [hx])]
   exact (ih.cons x).trans (List.Perm.swap _ _ _)
theorem without_ofL {m : List Ln} (hs : Sorted m) (k : Sp) (c : ByteArray) : ofL (without m k) c = ofL m c - (if k.2 = c then atL m k else 0) := by
 by_cases h : ∃ l ∈ m, keyL l = k
 ·obtain ⟨l, hl, rfl⟩ := h
  rw [ofL_perm (without_perm hs.keys hl) c, ofL_cons, atL_mem hs.keys hl]
  show _ = (if l.2.1 = c then l.2.2 else 0) + ofL (without m (keyL l)) c - (if l.2.1 = c then l.2.2 else 0)
  split <;> omega
 ·have h' : ∀ l ∈ m, keyL l ≠ k := fun l hl e => h ⟨l, hl, e⟩
  rw [without_same h', atL_none h']; simp
theorem insN_perm (x : Ln) : ∀ m : List Ln, (insN x m).Perm (x :: m)
 | [] => List.Perm.refl _
 | l :: r => by
  unfold insN
  split
  ·exact List.Perm.refl _
  ·exact ((insN_perm x r).cons l).trans (List.Perm.swap _ _ _)
theorem insN_sorted (x : Ln) : ∀ {m : List Ln}, Sorted m → (∀ l ∈ m, keyL l ≠ keyL x) → Sorted (insN x m)
 | [], _, _ => by unfold insN Sorted; simp
 | l :: r, h, hne => by
  unfold insN
  split
  ·rename_i hx
   exact List.pairwise_cons.2 ⟨fun y hy => by
    rcases List.mem_cons.1 hy with rfl | hy
    ·exact hx
    ·exact aheadK_trans hx (h.head y hy), h⟩
  ·rename_i hx
   refine List.pairwise_cons.2 ⟨fun y hy => ?_, insN_sorted x h.tail (fun y hy => hne y (by simp [hy]))⟩
   rcases List.mem_cons.1 ((insN_perm x r).mem_iff.1 hy) with rfl | hy
   ·exact aheadK_total (by simpa [aheadN_key] using hx) (fun e => hne l (by simp) e.symm)
   ·exact h.head y hy
theorem insN_atL (x : Ln) (k : Sp) : ∀ {m : List Ln}, (∀ l ∈ m, keyL l ≠ keyL x) → atL (insN x m) k = if k = keyL x then x.2.2 else atL m k
 | [], _ => by
  unfold insN
  by_cases h : k = keyL x
  ·rw [if_pos h, atL_cons_hit h.symm]
  ·rw [if_neg h, atL_cons_miss (fun e => h e.symm)]
 | l :: r, hne => by
  unfold insN
  split
  ·by_cases h : k = keyL x
   ·rw [if_pos h, atL_cons_hit h.symm]
   ·rw [if_neg h, atL_cons_miss (fun e => h e.symm)]
  ·by_cases hl : keyL l = k
   ·rw [atL_cons_hit hl, if_neg (fun e => hne l (by simp) (hl.trans e)), atL_cons_hit hl]
   ·rw [atL_cons_miss hl, insN_atL x k (fun y hy => hne y (by simp [hy])), atL_cons_miss hl]
theorem withL_perm {m : List Ln} {k : Sp} {n : Int} (hn : n ≠ 0) : (withL m k n).Perm ((k.1, k.2, n) :: without m k) := by
 unfold withL; rw [if_neg hn]; exact insN_perm _ _
theorem withL_zero (m : List Ln) (k : Sp) : withL m k 0 = without m k := by unfold withL; rw [if_pos rfl]
theorem withL_sorted {m : List Ln} (h : Sorted m) (k : Sp) (n : Int) : Sorted (withL m k n) := by
 unfold withL
 split
 ·exact without_sorted h k
 ·exact insN_sorted _ (without_sorted h k) fun l hl => (mem_without.1 hl).2
theorem withL_atL (m : List Ln) (k k' : Sp) (n : Int) : atL (withL m k n) k' = if k' = k then n else atL m k' := by
 unfold withL
 split
 ·rename_i h0
  by_cases h : k' = k
  ·subst h; rw [if_pos rfl, without_self, h0]
  ·rw [if_neg h, without_atL k k' h]
 ·rw [insN_atL (k.1, k.2, n) k' (m := without m k) fun l hl => (mem_without.1 hl).2]
  show (if k' = k then n else _) = _
  split
  ·rfl
  ·rename_i h; exact without_atL k k' h
theorem withL_ofL {m : List Ln} (hs : Sorted m) (k : Sp) (n : Int) (c : ByteArray) : ofL (withL m k n) c = ofL m c + (if k.2 = c then n - atL m k else 0) := by
 by_cases h0 : n = 0
 ·subst h0
  rw [withL_zero, without_ofL hs]; split <;> omega
 ·rw [ofL_perm (withL_perm h0), ofL_cons, without_ofL hs]
  show (if k.2 = c then n else 0) + _ = _
  split <;> omega
theorem withL_mem {m : List Ln} {k : Sp} {n : Int} {l : Ln} (h : l ∈ withL m k n) : (l = (k.1, k.2, n) ∧ n ≠ 0) ∨ l ∈ m := by
 by_cases h0 : n = 0
 ·subst h0; rw [withL_zero] at h; exact Or.inr (mem_without.1 h).1
 ·rcases List.mem_cons.1 ((withL_perm h0).mem_iff.1 h) with rfl | h
  ·exact Or.inl ⟨rfl, h0⟩
  ·exact Or.inr (mem_without.1 h).1
structure Wf (m : List Ln) : Prop where
 sorted : Sorted m
 ok : ∀ l ∈ m, okP l.1 = true ∧ isName l.2.1.data.toList = true ∧ 1 ≤ l.2.2
 most : ∀ c, ofL m c ≤ 1099511627776
 len : m.length ≤ 200
theorem Wf.nil : Wf [] := ⟨List.Pairwise.nil, by simp, fun c => by rw [ofL_nil]; decide, by decide⟩
theorem ofL_nonneg {m : List Ln} (h : ∀ l ∈ m, 1 ≤ l.2.2) (c : ByteArray) : 0 ≤ ofL m c := by
 induction m with
 | nil => exact Int.le_refl _
 | cons l m ih =>
  rw [ofL_cons]
  have h1 := h l (by simp)
  have h2 := ih fun x hx => h x (by simp [hx])
  split <;> omega
theorem ofL_mem_le {m : List Ln} (h : ∀ l ∈ m, 1 ≤ l.2.2) {l : Ln} (hl : l ∈ m) : l.2.2 ≤ ofL m l.2.1 := by
 induction m with
 | nil => cases hl
 | cons x m ih =>
  rw [ofL_cons]
  rcases List.mem_cons.1 hl with rfl | hl
  ·have := ofL_nonneg (fun y hy => h y (by simp [hy])) (m := m) l.2.1
   rw [if_pos rfl]; omega
  ·have h1 := h x (by simp)
   have h2 := ih (fun y hy => h y (by simp [hy])) hl
   split <;> omega
theorem Wf.pos {m : List Ln} (h : Wf m) : ∀ l ∈ m, 1 ≤ l.2.2 := fun l hl => (h.ok l hl).2.2
theorem Wf.qty {m : List Ln} (h : Wf m) {l : Ln} (hl : l ∈ m) : l.2.2 ≤ 1099511627776 := Int.le_trans (ofL_mem_le h.pos hl) (h.most _)
theorem Wf.at_nonneg {m : List Ln} (h : Wf m) (k : Sp) : 0 ≤ atL m k := by
 by_cases h0 : atL m k = 0
 ·omega
 ·have := h.pos _ (mem_of_atL h0); simp only at this; omega
theorem Wf.at_le {m : List Ln} (h : Wf m) (k : Sp) : atL m k ≤ ofL m k.2 := by
 by_cases h0 : atL m k = 0
 ·rw [h0]; exact ofL_nonneg h.pos _
 ·exact ofL_mem_le h.pos (mem_of_atL h0)
theorem Wf.at_zero {m : List Ln} (h : Wf m) (k : Sp) : atL m k = 0 ↔ ∀ l ∈ m, keyL l ≠ k := by
 refine ⟨fun h0 l hl e => ?_, atL_none⟩
 subst e
 rw [atL_mem h.sorted.keys hl] at h0
 have := h.pos l hl
 omega
theorem Wf.of_bound {m : List Ln} (h : Wf m) (c : ByteArray) : 0 ≤ ofL m c ∧ ofL m c ≤ 1099511627776 := ⟨ofL_nonneg h.pos c, h.most c⟩
theorem withL_length {m : List Ln} (h : Wf m) (k : Sp) (n : Int) : (withL m k n).length + (if atL m k = 0 then 0 else 1) = m.length + (if n = 0 then 0 else 1) := by
 have hw : (without m k).length + (if atL m k = 0 then 0 else 1) = m.length := by
  by_cases h0 : atL m k = 0
  ·rw [if_pos h0, without_same ((h.at_zero k).1 h0)]; rfl
  ·have hm := mem_of_atL h0
   have := (without_perm h.sorted.keys hm).length_eq
   rw [if_neg h0]
   simp only [List.length_cons] at this
   exact this.symm
 by_cases hn : n = 0
 ·subst hn; rw [withL_zero, if_pos rfl]; omega
 ·have := (withL_perm (m := m) (k := k) hn).length_eq
  simp only [List.length_cons] at this
  rw [if_neg hn]; omega
theorem Wf.set {m : List Ln} (h : Wf m) {k : Sp} {n : Int} (hn : 0 ≤ n) (hp : n ≠ 0 → okP k.1 = true ∧ isName k.2.data.toList = true) (hq : ofL m k.2 + n - atL m k ≤ 1099511627776) (hl : (withL m k n).length ≤ 200) : Wf (withL m k n) where
 sorted := withL_sorted h.sorted k n
 ok l hx := by
  rcases withL_mem hx with ⟨rfl, h0⟩ | hl
  ·exact ⟨(hp h0).1, (hp h0).2, by show 1 ≤ n; omega⟩
  ·exact h.ok l hl
 most c := by
  rw [withL_ofL h.sorted]
  have := h.most c
  split
  ·rename_i e; subst e; omega
  ·omega
 len := hl
def numW (n : Int) : Bool := decide (1 ≤ n) && decide (n ≤ 1099511627776)
def putE (m : List Ln) (x : Pl) (c : ByteArray) (n : Int) : Nat :=
 if placeErr x = 0 then (if isName c.data.toList then (if numW n && decide (ofL m c + n ≤ 1099511627776) then (if atL m (x, c) = 0 ∧ 200 ≤ m.length then 8 else 0) else 2) else 5) else placeErr x
def putL (m : List Ln) (x : Pl) (c : ByteArray) (n : Int) : List Ln := if putE m x c n = 0 then withL m (x, c) (atL m (x, c) + n) else m
def takeE (m : List Ln) (k : Sp) (n : Int) : Nat := if numW n then (if n ≤ atL m k then 0 else 9) else 2
def takeL (m : List Ln) (k : Sp) (n : Int) : List Ln := if takeE m k n = 0 then withL m k (atL m k - n) else m
def linesA (m : List Ln) (k k' : Sp) (n : Int) : Int := (m.length : Int) - (if atL m k = n then 1 else 0) + (if atL m k' = 0 then 1 else 0)
def moveE (m : List Ln) (x y : Pl) (c : ByteArray) (n : Int) : Nat :=
 if takeE m (x, c) n = 0 then (if placeErr y = 0 then (if x = y then 3 else (if 200 < linesA m (x, c) (y, c) n then 8 else 0)) else placeErr y) else takeE m (x, c) n
def moveL (m : List Ln) (x y : Pl) (c : ByteArray) (n : Int) : List Ln := if moveE m x y c n = 0 then withL (withL m (x, c) (atL m (x, c) - n)) (y, c) (atL m (y, c) + n) else m
theorem putE_le (m : List Ln) (x : Pl) (c : ByteArray) (n : Int) : putE m x c n ≤ 12 := by
 unfold putE
 have := placeErr_le x
 repeat' split
 all_goals omega
theorem takeE_le (m : List Ln) (k : Sp) (n : Int) : takeE m k n ≤ 12 := by
 unfold takeE
 repeat' split
 all_goals omega
theorem moveE_le (m : List Ln) (x y : Pl) (c : ByteArray) (n : Int) : moveE m x y c n ≤ 12 := by
 unfold moveE
 have := placeErr_le y
 have := takeE_le m (x, c) n
 repeat' split
 all_goals omega
theorem numW_iff (n : Int) : numW n = true ↔ 1 ≤ n ∧ n ≤ 1099511627776 := by unfold numW; simp
theorem putE_zero {m : List Ln} {x : Pl} {c : ByteArray} {n : Int} (h : putE m x c n = 0) : placeErr x = 0 ∧ isName c.data.toList = true ∧ 1 ≤ n ∧ ofL m c + n ≤ 1099511627776 ∧ ¬ (atL m (x, c) = 0 ∧ 200 ≤ m.length) := by
 unfold putE at h
 by_cases h1 : placeErr x = 0
 ·rw [if_pos h1] at h
  by_cases h2 : isName c.data.toList = true
  ·rw [if_pos h2] at h
   by_cases h3 : (numW n && decide (ofL m c + n ≤ 1099511627776)) = true
   ·rw [if_pos h3] at h
    by_cases h4 : atL m (x, c) = 0 ∧ 200 ≤ m.length
    ·rw [if_pos h4] at h; omega
    ·simp only [Bool.and_eq_true, decide_eq_true_eq, numW_iff] at h3
     exact ⟨h1, h2, h3.1.1, h3.2, h4⟩
   ·rw [if_neg h3] at h; omega
  ·rw [if_neg h2] at h; omega
 ·rw [if_neg h1] at h; exact absurd h h1
theorem Wf.put {m : List Ln} (h : Wf m) (x : Pl) (c : ByteArray) (n : Int) : Wf (putL m x c n) := by
 unfold putL
 split
 ·rename_i h0
  obtain ⟨h1, h2, h3, h4, h5⟩ := putE_zero h0
  have ha := h.at_nonneg (x, c)
  have hl := withL_length h (x, c) (atL m (x, c) + n)
  have hlen := h.len
  refine h.set (by omega) (fun _ => ⟨(okP_err x).2 h1, h2⟩) (by show ofL m c + _ - _ ≤ _; omega) ?_
  rw [if_neg (show ¬ atL m (x, c) + n = 0 by omega)] at hl
  by_cases h6 : atL m (x, c) = 0
  ·rw [if_pos h6] at hl
   have : ¬ 200 ≤ m.length := fun e => h5 ⟨h6, e⟩
   omega
  ·rw [if_neg h6] at hl; omega
 ·exact h
theorem takeE_zero {m : List Ln} {k : Sp} {n : Int} (h : takeE m k n = 0) : 1 ≤ n ∧ n ≤ 1099511627776 ∧ n ≤ atL m k := by
 unfold takeE at h
 by_cases h1 : numW n = true
 ·rw [if_pos h1] at h
  by_cases h2 : n ≤ atL m k
  ·exact ⟨((numW_iff n).1 h1).1, ((numW_iff n).1 h1).2, h2⟩
  ·rw [if_neg h2] at h; omega
 ·rw [if_neg h1] at h; omega
theorem Wf.less {m : List Ln} (h : Wf m) {k : Sp} {n : Int} (h1 : 1 ≤ n) (h2 : n ≤ atL m k) : Wf (withL m k (atL m k - n)) := by
 have h0 : atL m k ≠ 0 := by omega
 have hm := h.ok _ (mem_of_atL h0)
 have hl := withL_length h k (atL m k - n)
 have hlen := h.len
 have hmost := h.most k.2
 rw [if_neg h0] at hl
 refine h.set (by omega) (fun _ => ⟨hm.1, hm.2.1⟩) (by omega) ?_
 split at hl <;> omega
theorem Wf.take {m : List Ln} (h : Wf m) (k : Sp) (n : Int) : Wf (takeL m k n) := by
 unfold takeL
 split
 ·rename_i h0
  obtain ⟨h1, _, h2⟩ := takeE_zero h0
  exact h.less h1 h2
 ·exact h
theorem moveE_zero {m : List Ln} {x y : Pl} {c : ByteArray} {n : Int} (h : moveE m x y c n = 0) : takeE m (x, c) n = 0 ∧ placeErr y = 0 ∧ x ≠ y ∧ linesA m (x, c) (y, c) n ≤ 200 := by
 unfold moveE at h
 by_cases h1 : takeE m (x, c) n = 0
 ·rw [if_pos h1] at h
  by_cases h2 : placeErr y = 0
  ·rw [if_pos h2] at h
   by_cases h3 : x = y
   ·rw [if_pos h3] at h; omega
   ·rw [if_neg h3] at h
    by_cases h4 : 200 < linesA m (x, c) (y, c) n
    ·rw [if_pos h4] at h; omega
    ·exact ⟨h1, h2, h3, by omega⟩
  ·rw [if_neg h2] at h; exact absurd h h2
 ·rw [if_neg h1] at h; exact absurd h h1
theorem spot_ne {x y : Pl} {c : ByteArray} (h : x ≠ y) : ((x, c) : Sp) ≠ (y, c) := fun e => h (congrArg Prod.fst e)
theorem move_parts {m : List Ln} (h : Wf m) {x y : Pl} {c : ByteArray} {n : Int} (h1 : takeE m (x, c) n = 0) (h2 : placeErr y = 0) (h3 : x ≠ y) :
  putE (withL m (x, c) (atL m (x, c) - n)) y c n = (if 200 < linesA m (x, c) (y, c) n then 8 else 0) ∧ atL (withL m (x, c) (atL m (x, c) - n)) (y, c) = atL m (y, c) := by
 obtain ⟨t1, t2, t3⟩ := takeE_zero h1
 have h0 : atL m (x, c) ≠ 0 := by omega
 have hm := h.ok _ (mem_of_atL h0)
 have hw := h.less t1 t3
 have ea : atL (withL m (x, c) (atL m (x, c) - n)) (y, c) = atL m (y, c) := by rw [withL_atL, if_neg (fun e => spot_ne h3 e.symm)]
 have eo : ofL (withL m (x, c) (atL m (x, c) - n)) c = ofL m c - n := by rw [withL_ofL h.sorted, if_pos rfl]; omega
 have el := withL_length h (x, c) (atL m (x, c) - n)
 rw [if_neg h0] at el
 have hmost := h.most c
 have hlen := h.len
 refine ⟨?_, ea⟩
 unfold putE
 rw [if_pos h2, if_pos hm.2.1, eo, ea]
 rw [if_pos (by simp only [Bool.and_eq_true, decide_eq_true_eq, numW_iff]; omega)]
 unfold linesA
 by_cases e1 : atL m (x, c) = n
 ·rw [if_pos e1]
  rw [if_pos (show atL m (x, c) - n = 0 by omega)] at el
  by_cases e2 : atL m (y, c) = 0
  ·rw [if_pos e2]
   simp only [e2, true_and]
   split <;> split <;> omega
  ·rw [if_neg e2]
   simp only [e2, false_and, if_false]
   split <;> omega
 ·rw [if_neg e1]
  rw [if_neg (show ¬ atL m (x, c) - n = 0 by omega)] at el
  by_cases e2 : atL m (y, c) = 0
  ·rw [if_pos e2]
   simp only [e2, true_and]
   split <;> split <;> omega
  ·rw [if_neg e2]
   simp only [e2, false_and, if_false]
   split <;> omega
theorem Wf.move {m : List Ln} (h : Wf m) (x y : Pl) (c : ByteArray) (n : Int) : Wf (moveL m x y c n) := by
 unfold moveL
 split
 ·rename_i h0
  obtain ⟨h1, h2, h3, h4⟩ := moveE_zero h0
  obtain ⟨t1, t2, t3⟩ := takeE_zero h1
  obtain ⟨p1, p2⟩ := move_parts h h1 h2 h3
  rw [if_neg (by omega)] at p1
  have := (h.less t1 t3).put y c n
  unfold putL at this
  rw [if_pos p1, p2] at this
  exact this
 ·exact h
end Go.Proofs.YtppodkkefegbkaaGreatDoor
namespace Go.Proofs.YtppodkkefegbkaaGreatDoor
open Go.RowKit Go.Lib Go.Sort
open Go.Maps (Keyed)
abbrev agS (k : Sp) : Value := .agg #[.string k.1.1, .int .i64 k.1.2.1, .int .i64 k.1.2.2, .string k.2]
def entN (l : Ln) : Ent := (agS (keyL l), .int .i64 l.2.2)
structure KeyOk (k : Sp) : Prop where
 z : k.1.1.size ≤ maxLen
 r : (Lit.int .i64 k.1.2.1).wf = true
 b : (Lit.int .i64 k.1.2.2).wf = true
 c : k.2.size ≤ maxLen
theorem Tryz.laidOut : laidOutB Tryz.prog = true := by kernel_rfl
theorem Tryz.keyT : Tryz.prog.keyTypeAt 4 99 = true := by kernel_rfl
theorem Tryz.keyRow : 99 < Tryz.prog.types.size := of_decide_eq_true (by kernel_rfl)
theorem keyed : Keyed Tryz.prog 99 := Keyed.of_law (deep_law_laid Tryz.laidOut (m := 4) (by decide) Tryz.keyRow Tryz.keyT (by rw [Tryz.underlying99]))
theorem Tryz.keyTy : Tryz.prog.keyType 99 = true := by kernel_rfl
theorem Tryz.cellsSpot : Tryz.prog.cellsOf 99 = 4 := by kernel_rfl
theorem Tryz.cellsPl : Tryz.prog.cellsOf 41 = 3 := by kernel_rfl
theorem Tryz.cellsStr : Tryz.prog.cellsOf 9 = 1 := by kernel_rfl
theorem Tryz.cellsInt : Tryz.prog.cellsOf 3 = 1 := by kernel_rfl
theorem Tryz.typesN : ∃ n, Tryz.prog.types.size + 1 = n + 3 := ⟨Tryz.prog.types.size - 2, by have := Tryz.keyRow; omega⟩
theorem keyOf_spot {k : Sp} (h : KeyOk k) : ∃ l, keyOf Tryz.prog 99 (agS k) = some l := by
 obtain ⟨⟨a, r, b⟩, c⟩ := k
 obtain ⟨h1, h2, h3, h4⟩ := h
 simp only at h1 h2 h3 h4
 obtain ⟨n, hn⟩ := Tryz.typesN
 apply Option.isSome_iff_exists.1
 simp only [keyOf, Tryz.underlying99, Tryz.keyTy, Value.formed, Tryz.cellsSpot, hn]
 simp [Program.keyLits, Tryz.underlying99, Tryz.underlying41, Tryz.underlying9, Tryz.underlying3, Tryz.cellsSpot, Tryz.cellsPl, Tryz.cellsStr, Tryz.cellsInt, Value.cells, h1, h2, h3, h4]
 rw [if_pos]
 ·rfl
 ·intro i hi
  match i, hi with
  | 0, _ => simp
  | 1, _ => simp
  | 2, _ => simp
theorem agS_inj {k k' : Sp} (h : agS k = agS k') : k = k' := by
 obtain ⟨⟨a, r, b⟩, c⟩ := k
 obtain ⟨⟨a', r', b'⟩, c'⟩ := k'
 simp [agS] at h
 obtain ⟨rfl, rfl, rfl, rfl⟩ := h
 rfl
structure IsStock (w : World) (p b : Nat) (m : List Ln) : Prop where
 cell : w.cell? ⟨p, 0, none⟩ = some (.map (some b))
 map : MapL Tryz.prog 99 w b (m.map entN)
 wf : Wf m
theorem IsStock.lt {w : World} {p b : Nat} {m : List Ln} (h : IsStock w p b m) : p < w.heap.size ∧ b < w.heap.size := ⟨cell_lt h.cell, h.map.lt⟩
theorem IsStock.ne {w : World} {p b : Nat} {m : List Ln} (h : IsStock w p b m) : p ≠ b := h.map.ne_of_cells h.cell
theorem IsStock.below {w w' : World} {p b : Nat} {m : List Ln} {B : Nat} (h : IsStock w p b m) (hb : Below B w w') (h1 : p < B) (h2 : b < B) : IsStock w' p b m where
 cell := by rw [hb.cell (p := ⟨p, 0, none⟩) h1]; exact h.cell
 map := h.map.below hb h2
 wf := h.wf
theorem IsStock.all {w w' : World} {p b : Nat} {m : List Ln} (h : IsStock w p b m) (hb : Below w.heap.size w w') : IsStock w' p b m := h.below hb h.lt.1 h.lt.2
theorem IsStock.drew {w : World} {p b : Nat} {m : List Ln} (h : IsStock w p b m) (n : Nat) : IsStock (w.drewN n) p b m := h.all (below_drewN (Below.refl _ w) n)
theorem mem_ents {m : List Ln} {k : Sp} {v : Value} (h : (agS k, v) ∈ m.map entN) : ∃ l ∈ m, keyL l = k ∧ v = .int .i64 l.2.2 := by
 obtain ⟨l, hl, e⟩ := List.mem_map.1 h
 unfold entN at e
 simp only [Prod.mk.injEq] at e
 exact ⟨l, hl, agS_inj e.1, e.2.symm⟩
theorem ents_mem {m : List Ln} {l : Ln} (h : l ∈ m) : (agS (keyL l), Value.int .i64 l.2.2) ∈ m.map entN := List.mem_map.2 ⟨l, h, rfl⟩
theorem IsStock.look {w : World} {p b : Nat} {m : List Ln} (h : IsStock w p b m) {k : Sp} (hk : KeyOk k) : (Instr.lookup 95 (.map (some b)) (agS k) false).run Tryz.prog w = .ok (.int .i64 (atL m k)) w := by
 obtain ⟨kl, hkl⟩ := keyOf_spot hk
 by_cases h0 : atL m k = 0
 ·rw [h0]
  refine h.map.look_miss keyed Tryz.underlying95 hkl (Tryz.zeroValue3 w) fun v hv => ?_
  obtain ⟨l, hl, e, _⟩ := mem_ents hv
  exact (h.wf.at_zero k).1 h0 l hl e
 ·exact h.map.look_hit keyed Tryz.underlying95 hkl (ents_mem (mem_of_atL h0))
theorem IsStock.looks {w : World} {p b : Nat} {m : List Ln} (h : IsStock w p b m) {k : Sp} (hk : KeyOk k) : ∀ n, (Instr.lookup 95 (.map (some b)) (agS k) false).run Tryz.prog (w.drewN n) = .ok (.int .i64 (atL m k)) (w.drewN n) := fun n => (h.drew n).look hk
theorem IsStock.entry {w : World} {p b : Nat} {m : List Ln} (h : IsStock w p b m) {k : Sp} (hk : KeyOk k) :
  ∃ (st : Nat) (w2 : World), (Instr.mapEntry 95 (.map (some b)) (agS k)).run Tryz.prog w = .ok (.tuple #[.int .i64 (atL m k), .int .i64 st]) w2 ∧ (Instr.lookup 95 (.map (some b)) (agS k) false).run Tryz.prog w2 = .ok (.int .i64 (atL m k)) w2 ∧ w.mapTurned w2 b ∧
   ∀ n : Int, ∃ w3, (Instr.entryStore 95 (.map (some b)) (.int .i64 st) (.int .i64 n)).run Tryz.prog w2 = .ok () w3 ∧ MapL Tryz.prog 99 w3 b (((k.1, k.2, n) :: without m k).map entN) ∧ w.mapTurned w3 b := by
 obtain ⟨kl, hkl⟩ := keyOf_spot hk
 by_cases h0 : atL m k = 0
 ·have hne := (h.wf.at_zero k).1 h0
  obtain ⟨st, w2, e1, e2, e3, e4⟩ := h.map.entry_new keyed Tryz.underlying95 hkl Tryz.zeroValue3 (fun v hv => by
   obtain ⟨l, hl, e, _⟩ := mem_ents hv
   exact hne l hl e)
  rw [h0, without_same hne]
  exact ⟨st, w2, e1, e2, e3, fun n => e4 (.int .i64 n)⟩
 ·have hp := (without_perm h.wf.sorted.keys (mem_of_atL h0)).map entN
  obtain ⟨st, w2, e1, e2, e3, e4⟩ := h.map.entry_old keyed Tryz.underlying95 hkl hp
  exact ⟨st, w2, e1, e2, e3, fun n => e4 (.int .i64 n)⟩
theorem numWell_any (n : Int) (w : World) : Calls Tryz.prog 116 #[.int .i64 n] w fun e w' => e = .returned (.bool (numW n)) ∧ w' = w := by
 unfold numW
 by_cases h1 : 1 ≤ n
 ·by_cases h2 : n ≤ 1099511627776
  ·rw [decide_eq_true h1, decide_eq_true h2]
   go_enter Tryz.func116, Tryz.ntmps116
   go_wp2
   go_ret
   exact ⟨rfl, rfl⟩
  ·rw [decide_eq_true h1, decide_eq_false h2]
   go_enter Tryz.func116, Tryz.ntmps116
   go_wp2
   go_ret
   exact ⟨rfl, rfl⟩
 ·rw [decide_eq_false h1]
  go_enter Tryz.func116, Tryz.ntmps116
  go_wp2
  go_ret
  exact ⟨rfl, rfl⟩
theorem at_any (x : Pl) (c : ByteArray) (w : World) (p b : Nat) (m : List Ln) (h : IsStock w p b m) (hk : KeyOk (x, c)) :
  Calls Tryz.prog 13 #[.pointer (some ⟨p, 0, none⟩), agP x, .string c] w fun e w' => e = .returned (.int .i64 (atL m (x, c))) ∧ Below w.heap.size w w' := by
 have hB := (Below.refl w.heap.size w).alloc (Nat.le_refl _) (.cells #[.string x.1, .int .i64 x.2.1, .int .i64 x.2.2] 41)
 have h1 := (h.all hB)
 have hl := h1.looks hk
 have hc := h1.cell
 have HB : Hid (Below _ _ _) := hB
 clear hB h1 h hk
 obtain ⟨a, r, bb⟩ := x
 unfold agP agS at *
 simp only at *
 generalize atL m ((a, r, bb), c) = n at *
 go_enter Tryz.func13, Tryz.ntmps13
 go_wp2
 go_quiet (fail)
 go_wp2
 go_ret
 exact ⟨rfl, below_drewN HB.out _⟩
end Go.Proofs.YtppodkkefegbkaaGreatDoor
