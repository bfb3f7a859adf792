/-
 Plain mathematics of a stock as a list of lines in order: pieces at a place, pieces of a lot, a line set anew, what comes, goes and moves; no program is named h
-/
import Derived.Test.YteomomeigbfeoaaGreatDoorJz2
import Derived.Test.YteomomeigbfeoaaGreatDoorJz1
import Derived.DeepKeys4
import Derived.BigRegion
import Derived.BigQuiet
import Derived.WalkKit
import Derived.RegionTactic
import Derived.OwnWalk
import Derived.Shelf.SlSortCmp.WholeK
import Derived.Test.YteomomeigbfeoaaGreatDoorGen3
import Derived.Lib.SplitLaws
set_option maxRecDepth 100000
set_option maxHeartbeats 16000000
namespace Go.Proofs.YteomomeigbfeoaaGreatDoor
open Go.Lib Go.Sort
abbrev Sp := Pl × ByteArray
abbrev Ln := Pl × ByteArray × Int
def keyL (l : Ln) : Sp := (l.1, l.2.1)
def cmpK (x y : Sp) : Int := or2 (cmpP x.1 y.1) (cmpZ x.2 y.2)
def aheadK (x y : Sp) : Bool := decide (cmpK x y < 0)
def cmpN (x y : Ln) : Int := cmpK (keyL x) (keyL y)
def aheadN (x y : Ln) : Bool := decide (cmpN x y < 0)
theorem aheadN_key (x y : Ln) : aheadN x y = aheadK (keyL x) (keyL y) := rfl
def aheadKW (x y : Sp) : Prop := aheadW x.1 y.1 ∨ (x.1 = y.1 ∧ zLt x.2 y.2 = true)
theorem cmpP_self (x : Pl) : cmpP x x = 0 := by
 unfold cmpP or3 bays
 rw [cmpZ_self]
 rcases cmpI_cases x.2.1 x.2.1 with ⟨h, _⟩ | ⟨h, _⟩ | ⟨_, h⟩
 ·omega
 ·omega
 ·rcases cmpI_cases x.2.2 x.2.2 with ⟨h', _⟩ | ⟨h', _⟩ | ⟨_, h'⟩
  ·omega
  ·omega
  ·rw [h]; simp [h']
theorem cmpP_zero {x y : Pl} (h : cmpP x y = 0) : x = y := by
 obtain ⟨a, r, b⟩ := x
 obtain ⟨a', r', b'⟩ := y
 unfold cmpP or3 bays at h
 simp only at h
 rcases cmpZ_cases a a' with ⟨h1, h2, h3, h4⟩ | ⟨h1, h2, h3, h4⟩ | ⟨h1, h2, h3, h4⟩
 ·rw [h4] at h; simp at h
 ·rw [h4] at h; simp at h
 ·subst h3
  rw [h4] at h
  rcases cmpI_cases r r' with ⟨k1, k2⟩ | ⟨k1, k2⟩ | ⟨k1, k2⟩
  ·rw [k2] at h; simp at h
  ·rw [k2] at h; simp at h
  ·subst k1
   rw [k2] at h
   by_cases hp : r.tmod 2 = 0
   ·rcases cmpI_cases b' b with ⟨m1, m2⟩ | ⟨m1, m2⟩ | ⟨m1, m2⟩ <;> simp [hp, m2] at h
    subst m1; rfl
   ·rcases cmpI_cases b b' with ⟨m1, m2⟩ | ⟨m1, m2⟩ | ⟨m1, m2⟩ <;> simp [hp, m2] at h
    subst m1; rfl
theorem aheadK_iff (x y : Sp) : aheadK x y = true ↔ aheadKW x y := by
 obtain ⟨p, a⟩ := x
 obtain ⟨q, b⟩ := y
 unfold aheadK aheadKW cmpK or2
 simp only [decide_eq_true_eq]
 by_cases h : p = q
 ·subst h
  rw [if_pos (cmpP_self p)]
  rcases cmpZ_cases a b with ⟨h1, h2, h3, h4⟩ | ⟨h1, h2, h3, h4⟩ | ⟨h1, h2, h3, h4⟩ <;> simp [h4, h1, aheadW_irrefl]
 ·rw [if_neg (fun e => h (cmpP_zero e))]
  have := aheadP_iff p q
  unfold aheadP at this
  simp only [decide_eq_true_eq] at this
  rw [this]
  simp [h]
theorem aheadK_no (x y : Sp) : aheadK x y = false ↔ ¬ aheadKW x y := by rw [← aheadK_iff]; simp
theorem aheadKW_irrefl (x : Sp) : ¬ aheadKW x x := by
 unfold aheadKW; rw [zLt_irrefl]
 rintro (h | ⟨_, h⟩)
 ·exact aheadW_irrefl _ h
 ·cases h
theorem aheadKW_trans {x y z : Sp} (h : aheadKW x y) (h' : aheadKW y z) : aheadKW x z := by
 unfold aheadKW at *
 rcases h with h | ⟨e, h⟩
 ·rcases h' with h' | ⟨e', h'⟩
  ·exact Or.inl (aheadW_trans h h')
  ·exact Or.inl (e' ▸ h)
 ·rcases h' with h' | ⟨e', h'⟩
  ·exact Or.inl (e.symm ▸ h')
  ·exact Or.inr ⟨e.trans e', zLt_trans h h'⟩
theorem aheadKW_total (x y : Sp) : aheadKW x y ∨ aheadKW y x ∨ x = y := by
 obtain ⟨p, a⟩ := x
 obtain ⟨q, b⟩ := y
 unfold aheadKW
 simp only
 rcases aheadW_total p q with h | h | rfl
 ·exact Or.inl (Or.inl h)
 ·exact Or.inr (Or.inl (Or.inl h))
 ·rcases cmpZ_cases a b with ⟨h1, h2, h3, h4⟩ | ⟨h1, h2, h3, h4⟩ | ⟨h1, h2, h3, h4⟩
  ·exact Or.inl (Or.inr ⟨rfl, h1⟩)
  ·exact Or.inr (Or.inl (Or.inr ⟨rfl, h2⟩))
  ·subst h3; exact Or.inr (Or.inr rfl)
theorem aheadK_irrefl (x : Sp) : aheadK x x = false := (aheadK_no x x).2 (aheadKW_irrefl x)
theorem aheadK_trans {x y z : Sp} (h : aheadK x y = true) (h' : aheadK y z = true) : aheadK x z = true := (aheadK_iff x z).2 (aheadKW_trans ((aheadK_iff x y).1 h) ((aheadK_iff y z).1 h'))
theorem aheadK_ne {x y : Sp} (h : aheadK x y = true) : x ≠ y := by rintro rfl; rw [aheadK_irrefl] at h; cases h
theorem aheadK_asymm {x y : Sp} (h : aheadK x y = true) : aheadK y x = false := by
 cases h' : aheadK y x with
 | false => rfl
 | true => have := aheadK_trans h h'; rw [aheadK_irrefl] at this; cases this
theorem aheadK_total {x y : Sp} (h : aheadK x y = false) (hne : x ≠ y) : aheadK y x = true := by
 rw [aheadK_no] at h
 rcases aheadKW_total x y with k | k | k
 ·exact absurd k h
 ·exact (aheadK_iff y x).2 k
 ·exact absurd k hne
theorem swoN : SWO aheadN where
 irrefl x := aheadK_irrefl _
 trans x y z h1 h2 := aheadK_trans h1 h2
 ntrans x y z h1 h2 := by
  rw [aheadN_key, aheadK_no] at *
  intro h
  rcases aheadKW_total (keyL x) (keyL y) with k | k | k
  ·exact h1 k
  ·exact h2 (aheadKW_trans k h)
  ·rw [k] at h; exact h2 h
def Sorted (m : List Ln) : Prop := m.Pairwise fun a b => aheadN a b = true
def atL (m : List Ln) (k : Sp) : Int := match m.find? (fun l => decide (keyL l = k)) with | some l => l.2.2 | none => 0
def ofL (m : List Ln) (lot : ByteArray) : Int := (m.map fun l => if l.2.1 = lot then l.2.2 else 0).sum
def without (m : List Ln) (k : Sp) : List Ln := m.filter fun l => decide (keyL l ≠ k)
def insN (x : Ln) : List Ln → List Ln
 | [] => [x]
 | l :: r => if aheadN x l then x :: l :: r else l :: insN x r
def withL (m : List Ln) (k : Sp) (n : Int) : List Ln := if n = 0 then without m k else insN (k.1, k.2, n) (without m k)
theorem atL_cons_hit {l : Ln} {m : List Ln} {k : Sp} (h : keyL l = k) : atL (l :: m) k = l.2.2 := by unfold atL; rw [List.find?_cons, decide_eq_true h]
theorem atL_cons_miss {l : Ln} {m : List Ln} {k : Sp} (h : keyL l ≠ k) : atL (l :: m) k = atL m k := by unfold atL; rw [List.find?_cons, decide_eq_false h]
theorem ofL_nil (c : ByteArray) : ofL [] c = 0 := rfl
theorem ofL_cons (l : Ln) (m : List Ln) (c : ByteArray) : ofL (l :: m) c = (if l.2.1 = c then l.2.2 else 0) + ofL m c := by unfold ofL; simp
theorem ofL_append (m m' : List Ln) (c : ByteArray) : ofL (m ++ m') c = ofL m c + ofL m' c := by unfold ofL; simp
theorem ofL_perm {m m' : List Ln} (h : m.Perm m') (c : ByteArray) : ofL m c = ofL m' c := by
 induction h with
 | nil => rfl
 | cons x _ ih => rw [ofL_cons, ofL_cons, ih]
 | swap x y l => rw [ofL_cons, ofL_cons, ofL_cons, ofL_cons]; omega
 | trans _ _ h1 h2 => rw [h1, h2]
theorem atL_none {m : List Ln} {k : Sp} (h : ∀ l ∈ m, keyL l ≠ k) : atL m k = 0 := by
 unfold atL
 rw [List.find?_eq_none.2 (fun l hl => by simp [h l hl])]
theorem Sorted.keys {m : List Ln} (h : Sorted m) : (m.map keyL).Nodup := by
 unfold List.Nodup
 rw [List.pairwise_map]
 exact h.imp (fun hab e => by rw [aheadN_key, e, aheadK_irrefl] at hab; cases hab)
theorem Sorted.tail {l : Ln} {m : List Ln} (h : Sorted (l :: m)) : Sorted m := (List.pairwise_cons.1 h).2
theorem Sorted.head {l : Ln} {m : List Ln} (h : Sorted (l :: m)) : ∀ x ∈ m, aheadN l x = true := (List.pairwise_cons.1 h).1
theorem atL_mem : ∀ {m : List Ln}, (m.map keyL).Nodup → ∀ {l : Ln}, l ∈ m → atL m (keyL l) = l.2.2
 | x :: m, hn, l, hl => by
  obtain ⟨h1, h2⟩ : keyL x ∉ m.map keyL ∧ (m.map keyL).Nodup := List.nodup_cons.1 hn
  rcases List.mem_cons.1 hl with rfl | h
  ·exact atL_cons_hit rfl
  ·rw [atL_cons_miss (fun e => h1 (by rw [e]; exact List.mem_map.2 ⟨l, h, rfl⟩))]
   exact atL_mem h2 h
theorem mem_of_atL {m : List Ln} {k : Sp} (h : atL m k ≠ 0) : (k.1, k.2, atL m k) ∈ m := by
 unfold atL at *
 cases hf : m.find? (fun l => decide (keyL l = k)) with
 | none => rw [hf] at h; exact absurd rfl h
 | some l =>
  have h1 := List.mem_of_find?_eq_some hf
  have h2 := List.find?_some hf
  simp only [decide_eq_true_eq] at h2
  rw [← h2]
  exact h1
theorem mem_without {m : List Ln} {k : Sp} {l : Ln} : l ∈ without m k ↔ l ∈ m ∧ keyL l ≠ k := by unfold without; simp
theorem without_sorted {m : List Ln} (h : Sorted m) (k : Sp) : Sorted (without m k) := h.filter _
theorem without_same {m : List Ln} {k : Sp} (h : ∀ l ∈ m, keyL l ≠ k) : without m k = m := List.filter_eq_self.2 fun l hl => by simpa using h l hl
theorem without_atL {m : List Ln} (k k' : Sp) (h : k' ≠ k) : atL (without m k) k' = atL m k' := by
 induction m with
 | nil => rfl
 | cons l m ih =>
  unfold without at *
  by_cases hk : keyL l = k
  ·rw [List.filter_cons_of_neg (by simp [hk]), ih, atL_cons_miss (by rw [hk]; exact fun e => h e.symm)]
  ·rw [List.filter_cons_of_pos (by simp [hk])]
   by_cases hk' : keyL l = k'
   ·rw [atL_cons_hit hk', atL_cons_hit hk']
   ·rw [atL_cons_miss hk', atL_cons_miss hk', ih]
theorem without_self (m : List Ln) (k : Sp) : atL (without m k) k = 0 := atL_none fun _ hl => (mem_without.1 hl).2
theorem without_perm : ∀ {m : List Ln}, (m.map keyL).Nodup → ∀ {l : Ln}, l ∈ m → m.Perm (l :: without m (keyL l))
 | x :: m, hn, l, hl => by
  obtain ⟨h1, h2⟩ : keyL x ∉ m.map keyL ∧ (m.map keyL).Nodup := List.nodup_cons.1 hn
  rcases List.mem_cons.1 hl with rfl | h
  ·unfold without
   rw [List.filter_cons_of_neg (by simp)]
   have : m.filter (fun y => decide (keyL y ≠ keyL l)) = m := List.filter_eq_self.2 fun y hy => by
    have : keyL y ≠ keyL l := fun e => h1 (by rw [← e]; exact List.mem_map.2 ⟨y, hy, rfl⟩)
    simpa using this
   rw [this]
  ·have hx : keyL x ≠ keyL l := fun e => h1 (by rw [e]; exact List.mem_map.2 ⟨l, h, rfl⟩)
   have ih := without_perm h2 h
   unfold without at *
   rw [List.filter_cons_of_pos (by simp [hx])]
   exact (ih.cons x).trans (List.Perm.swap _ _ _)
theorem without_ofL {m : List Ln} (hs : Sorted m) (k : Sp) (c : ByteArray) : ofL (without m k) c = ofL m c - (if k.2 = c then atL m k else 0) := by
 by_cases h : ∃ l ∈ m, keyL l = k
 ·obtain ⟨l, hl, rfl⟩ := h
  rw [ofL_perm (without_perm hs.keys hl) c, ofL_cons, atL_mem hs.keys hl]
  show _ = (if l.2.1 = c then l.2.2 else 0) + ofL (without m (keyL l)) c - (if l.2.1 = c then l.2.2 else 0)
  split <;> omega
 ·have h' : ∀ l ∈ m, keyL l ≠ k := fun l hl e => h ⟨l, hl, e⟩
  rw [without_same h', atL_none h']; simp
theorem insN_perm (x : Ln) : ∀ m : List Ln, (insN x m).Perm (x :: m)
 | [] => List.Perm.refl _
 | l :: r => by
  unfold insN
  split
  ·exact List.Perm.refl _
  ·exact ((insN_perm x r).cons l).trans (List.Perm.swap _ _ _)
theorem insN_sorted (x : Ln) : ∀ {m : List Ln}, Sorted m → (∀ l ∈ m, keyL l ≠ keyL x) → Sorted (insN x m)
 | [], _, _ => by unfold insN Sorted; simp
 | l :: r, h, hne => by
  unfold insN
  split
  ·rename_i hx
   exact List.pairwise_cons.2 ⟨fun y hy => by
    rcases List.mem_cons.1 hy with rfl | hy
    ·exact hx
    ·exact aheadK_trans hx (h.head y hy), h⟩
  ·rename_i hx
   refine List.pairwise_cons.2 ⟨fun y hy => ?_, insN_sorted x h.tail (fun y hy => hne y (by simp [hy]))⟩
   rcases List.mem_cons.1 ((insN_perm x r).mem_iff.1 hy) with rfl | hy
   ·exact aheadK_total (by simpa [aheadN_key] using hx) (fun e => hne l (by simp) e.symm)
   ·exact h.head y hy
theorem insN_atL (x : Ln) (k : Sp) : ∀ {m : List Ln}, (∀ l ∈ m, keyL l ≠ keyL x) → atL (insN x m) k = if k = keyL x then x.2.2 else atL m k
 | [], _ => by
  unfold insN
  by_cases h : k = keyL x
  ·rw [if_pos h, atL_cons_hit h.symm]
  ·rw [if_neg h, atL_cons_miss (fun e => h e.symm)]
 | l :: r, hne => by
  unfold insN
  split
  ·by_cases h : k = keyL x
   ·rw [if_pos h, atL_cons_hit h.symm]
   ·rw [if_neg h, atL_cons_miss (fun e => h e.symm)]
  ·by_cases hl : keyL l = k
   ·rw [atL_cons_hit hl, if_neg (fun e => hne l (by simp) (hl.trans e)), atL_cons_hit hl]
   ·rw [atL_cons_miss hl, insN_atL x k (fun y hy => hne y (by simp [hy])), atL_cons_miss hl]
theorem withL_perm {m : List Ln} {k : Sp} {n : Int} (hn : n ≠ 0) : (withL m k n).Perm ((k.1, k.2, n) :: without m k) := by
 unfold withL; rw [if_neg hn]; exact insN_perm _ _
theorem withL_zero (m : List Ln) (k : Sp) : withL m k 0 = without m k := by unfold withL; rw [if_pos rfl]
theorem withL_sorted {m : List Ln} (h : Sorted m) (k : Sp) (n : Int) : Sorted (withL m k n) := by
 unfold withL
 split
 ·exact without_sorted h k
 ·exact insN_sorted _ (without_sorted h k) fun l hl => (mem_without.1 hl).2
theorem withL_atL (m : List Ln) (k k' : Sp) (n : Int) : atL (withL m k n) k' = if k' = k then n else atL m k' := by
 unfold withL
 split
 ·rename_i h0
  by_cases h : k' = k
  ·subst h; rw [if_pos rfl, without_self, h0]
  ·rw [if_neg h, without_atL k k' h]
 ·rw [insN_atL (k.1, k.2, n) k' (m := without m k) fun l hl => (mem_without.1 hl).2]
  show (if k' = k then n else _) = _
  split
  ·rfl
  ·rename_i h; exact without_atL k k' h
theorem withL_ofL {m : List Ln} (hs : Sorted m) (k : Sp) (n : Int) (c : ByteArray) : ofL (withL m k n) c = ofL m c + (if k.2 = c then n - atL m k else 0) := by
 by_cases h0 : n = 0
 ·subst h0
  rw [withL_zero, without_ofL hs]; split <;> omega
 ·rw [ofL_perm (withL_perm h0), ofL_cons, without_ofL hs]
  show (if k.2 = c then n else 0) + _ = _
  split <;> omega
theorem withL_mem {m : List Ln} {k : Sp} {n : Int} {l : Ln} (h : l ∈ withL m k n) : (l = (k.1, k.2, n) ∧ n ≠ 0) ∨ l ∈ m := by
 by_cases h0 : n = 0
 ·subst h0; rw [withL_zero] at h; exact Or.inr (mem_without.1 h).1
 ·rcases List.mem_cons.1 ((withL_perm h0).mem_iff.1 h) with rfl | h
  ·exact Or.inl ⟨rfl, h0⟩
  ·exact Or.inr (mem_without.1 h).1
theorem sorted_ext : ∀ {m m' : List Ln}, Sorted m → Sorted m' → (∀ l, l ∈ m ↔ l ∈ m') → m = m'
 | [], [], _, _, _ => rfl
 | [], b :: s, _, _, h => by have := (h b).2 (by simp); simp at this
 | a :: r, [], _, _, h => by have := (h a).1 (by simp); simp at this
 | a :: r, b :: s, h1, h2, h => by
  have hab : a = b := by
   rcases List.mem_cons.1 ((h a).1 (by simp)) with e | ha
   ·exact e
   ·rcases List.mem_cons.1 ((h b).2 (by simp)) with e | hb
    ·exact e.symm
    ·have := aheadK_trans (h1.head b hb) (h2.head a ha)
     rw [aheadK_irrefl] at this
     cases this
  subst hab
  rw [sorted_ext h1.tail h2.tail (fun p => ⟨fun hp => by
   rcases List.mem_cons.1 ((h p).1 (by simp [hp])) with e | hp'
   ·have := h1.head p hp
    rw [e, aheadN_key, aheadK_irrefl] at this
    cases this
   ·exact hp', fun hp => by
   rcases List.mem_cons.1 ((h p).2 (by simp [hp])) with e | hp'
   ·have := h2.head p hp
    rw [e, aheadN_key, aheadK_irrefl] at this
    cases this
   ·exact hp'⟩)]
theorem sorted_perm_eq {m m' : List Ln} (h : Sorted m) (h' : Sorted m') (hp : m.Perm m') : m = m' := sorted_ext h h' fun _ => hp.mem_iff
structure Wf (m : List Ln) : Prop where
 sorted : Sorted m
 ok : ∀ l ∈ m, okP l.1 = true ∧ isName l.2.1.data.toList = true ∧ 1 ≤ l.2.2
 most : ∀ c, ofL m c ≤ 1099511627776
 len : m.length ≤ 200
theorem Wf.nil : Wf [] := ⟨List.Pairwise.nil, by simp, fun c => by rw [ofL_nil]; decide, by decide⟩
theorem ofL_nonneg {m : List Ln} (h : ∀ l ∈ m, 1 ≤ l.2.2) (c : ByteArray) : 0 ≤ ofL m c := by
 induction m with
 | nil => exact Int.le_refl _
 | cons l m ih =>
  rw [ofL_cons]
  have h1 := h l (by simp)
  have h2 := ih fun x hx => h x (by simp [hx])
  split <;> omega
theorem ofL_mem_le {m : List Ln} (h : ∀ l ∈ m, 1 ≤ l.2.2) {l : Ln} (hl : l ∈ m) : l.2.2 ≤ ofL m l.2.1 := by
 induction m with
 | nil => cases hl
 | cons x m ih =>
  rw [ofL_cons]
  rcases List.mem_cons.1 hl with rfl | hl
  ·have := ofL_nonneg (fun y hy => h y (by simp [hy])) (m := m) l.2.1
   rw [if_pos rfl]; omega
  ·have h1 := h x (by simp)
   have h2 := ih (fun y hy => h y (by simp [hy])) hl
   split <;> omega
theorem Wf.pos {m : List Ln} (h : Wf m) : ∀ l ∈ m, 1 ≤ l.2.2 := fun l hl => (h.ok l hl).2.2
theorem Wf.qty {m : List Ln} (h : Wf m) {l : Ln} (hl : l ∈ m) : l.2.2 ≤ 1099511627776 := Int.le_trans (ofL_mem_le h.pos hl) (h.most _)
theorem Wf.at_nonneg {m : List Ln} (h : Wf m) (k : Sp) : 0 ≤ atL m k := by
 by_cases h0 : atL m k = 0
 ·omega
 ·have := h.pos _ (mem_of_atL h0); simp only at this; omega
theorem Wf.at_le {m : List Ln} (h : Wf m) (k : Sp) : atL m k ≤ ofL m k.2 := by
 by_cases h0 : atL m k = 0
 ·rw [h0]; exact ofL_nonneg h.pos _
 ·exact ofL_mem_le h.pos (mem_of_atL h0)
theorem Wf.at_zero {m : List Ln} (h : Wf m) (k : Sp) : atL m k = 0 ↔ ∀ l ∈ m, keyL l ≠ k := by
 refine ⟨fun h0 l hl e => ?_, atL_none⟩
 subst e
 rw [atL_mem h.sorted.keys hl] at h0
 have := h.pos l hl
 omega
theorem Wf.of_bound {m : List Ln} (h : Wf m) (c : ByteArray) : 0 ≤ ofL m c ∧ ofL m c ≤ 1099511627776 := ⟨ofL_nonneg h.pos c, h.most c⟩
theorem withL_length {m : List Ln} (h : Wf m) (k : Sp) (n : Int) : (withL m k n).length + (if atL m k = 0 then 0 else 1) = m.length + (if n = 0 then 0 else 1) := by
 have hw : (without m k).length + (if atL m k = 0 then 0 else 1) = m.length := by
  by_cases h0 : atL m k = 0
  ·rw [if_pos h0, without_same ((h.at_zero k).1 h0)]; rfl
  ·have hm := mem_of_atL h0
   have := (without_perm h.sorted.keys hm).length_eq
   rw [if_neg h0]
   simp only [List.length_cons] at this
   exact this.symm
 by_cases hn : n = 0
 ·subst hn; rw [withL_zero, if_pos rfl]; omega
 ·have := (withL_perm (m := m) (k := k) hn).length_eq
  simp only [List.length_cons] at this
  rw [if_neg hn]; omega
theorem Wf.set {m : List Ln} (h : Wf m) {k : Sp} {n : Int} (hn : 0 ≤ n) (hp : n ≠ 0 → okP k.1 = true ∧ isName k.2.data.toList = true) (hq : ofL m k.2 + n - atL m k ≤ 1099511627776) (hl : (withL m k n).length ≤ 200) : Wf (withL m k n) where
 sorted := withL_sorted h.sorted k n
 ok l hx := by
  rcases withL_mem hx with ⟨rfl, h0⟩ | hl
  ·exact ⟨(hp h0).1, (hp h0).2, by show 1 ≤ n; omega⟩
  ·exact h.ok l hl
 most c := by
  rw [withL_ofL h.sorted]
  have := h.most c
  split
  ·rename_i e; subst e; omega
  ·omega
 len := hl
def numW (n : Int) : Bool := decide (1 ≤ n) && decide (n ≤ 1099511627776)
def putE (m : List Ln) (x : Pl) (c : ByteArray) (n : Int) : Nat :=
 if placeErr x = 0 then (if isName c.data.toList then (if numW n && decide (ofL m c + n ≤ 1099511627776) then (if atL m (x, c) = 0 ∧ 200 ≤ m.length then 8 else 0) else 2) else 5) else placeErr x
def putL (m : List Ln) (x : Pl) (c : ByteArray) (n : Int) : List Ln := if putE m x c n = 0 then withL m (x, c) (atL m (x, c) + n) else m
def takeE (m : List Ln) (k : Sp) (n : Int) : Nat := if numW n then (if n ≤ atL m k then 0 else 9) else 2
def takeL (m : List Ln) (k : Sp) (n : Int) : List Ln := if takeE m k n = 0 then withL m k (atL m k - n) else m
def linesA (m : List Ln) (k k' : Sp) (n : Int) : Int := (m.length : Int) - (if atL m k = n then 1 else 0) + (if atL m k' = 0 then 1 else 0)
def moveE (m : List Ln) (x y : Pl) (c : ByteArray) (n : Int) : Nat :=
 if takeE m (x, c) n = 0 then (if placeErr y = 0 then (if x = y then 3 else (if 200 < linesA m (x, c) (y, c) n then 8 else 0)) else placeErr y) else takeE m (x, c) n
def moveL (m : List Ln) (x y : Pl) (c : ByteArray) (n : Int) : List Ln := if moveE m x y c n = 0 then withL (withL m (x, c) (atL m (x, c) - n)) (y, c) (atL m (y, c) + n) else m
theorem putE_le (m : List Ln) (x : Pl) (c : ByteArray) (n : Int) : putE m x c n ≤ 12 := by
 unfold putE
 have := placeErr_le x
 repeat' split
 all_goals omega
theorem takeE_le (m : List Ln) (k : Sp) (n : Int) : takeE m k n ≤ 12 := by
 unfold takeE
 repeat' split
 all_goals omega
theorem moveE_le (m : List Ln) (x y : Pl) (c : ByteArray) (n : Int) : moveE m x y c n ≤ 12 := by
 unfold moveE
 have := placeErr_le y
 have := takeE_le m (x, c) n
 repeat' split
 all_goals omega
theorem numW_iff (n : Int) : numW n = true ↔ 1 ≤ n ∧ n ≤ 1099511627776 := by unfold numW; simp
theorem putE_zero {m : List Ln} {x : Pl} {c : ByteArray} {n : Int} (h : putE m x c n = 0) : placeErr x = 0 ∧ isName c.data.toList = true ∧ 1 ≤ n ∧ ofL m c + n ≤ 1099511627776 ∧ ¬ (atL m (x, c) = 0 ∧ 200 ≤ m.length) := by
 unfold putE at h
 by_cases h1 : placeErr x = 0
 ·rw [if_pos h1] at h
  by_cases h2 : isName c.data.toList = true
  ·rw [if_pos h2] at h
   by_cases h3 : (numW n && decide (ofL m c + n ≤ 1099511627776)) = true
   ·rw [if_pos h3] at h
    by_cases h4 : atL m (x, c) = 0 ∧ 200 ≤ m.length
    ·rw [if_pos h4] at h; omega
    ·simp only [Bool.and_eq_true, decide_eq_true_eq, numW_iff] at h3
     exact ⟨h1, h2, h3.1.1, h3.2, h4⟩
   ·rw [if_neg h3] at h; omega
  ·rw [if_neg h2] at h; omega
 ·rw [if_neg h1] at h; exact absurd h h1
theorem Wf.put {m : List Ln} (h : Wf m) (x : Pl) (c : ByteArray) (n : Int) : Wf (putL m x c n) := by
 unfold putL
 split
 ·rename_i h0
  obtain ⟨h1, h2, h3, h4, h5⟩ := putE_zero h0
  have ha := h.at_nonneg (x, c)
  have hl := withL_length h (x, c) (atL m (x, c) + n)
  have hlen := h.len
  refine h.set (by omega) (fun _ => ⟨(okP_err x).2 h1, h2⟩) (by show ofL m c + _ - _ ≤ _; omega) ?_
  rw [if_neg (show ¬ atL m (x, c) + n = 0 by omega)] at hl
  by_cases h6 : atL m (x, c) = 0
  ·rw [if_pos h6] at hl
   have : ¬ 200 ≤ m.length := fun e => h5 ⟨h6, e⟩
   omega
  ·rw [if_neg h6] at hl; omega
 ·exact h
theorem takeE_zero {m : List Ln} {k : Sp} {n : Int} (h : takeE m k n = 0) : 1 ≤ n ∧ n ≤ 1099511627776 ∧ n ≤ atL m k := by
 unfold takeE at h
 by_cases h1 : numW n = true
 ·rw [if_pos h1] at h
  by_cases h2 : n ≤ atL m k
  ·exact ⟨((numW_iff n).1 h1).1, ((numW_iff n).1 h1).2, h2⟩
  ·rw [if_neg h2] at h; omega
 ·rw [if_neg h1] at h; omega
theorem Wf.less {m : List Ln} (h : Wf m) {k : Sp} {n : Int} (h1 : 1 ≤ n) (h2 : n ≤ atL m k) : Wf (withL m k (atL m k - n)) := by
 have h0 : atL m k ≠ 0 := by omega
 have hm := h.ok _ (mem_of_atL h0)
 have hl := withL_length h k (atL m k - n)
 have hlen := h.len
 have hmost := h.most k.2
 rw [if_neg h0] at hl
 refine h.set (by omega) (fun _ => ⟨hm.1, hm.2.1⟩) (by omega) ?_
 split at hl <;> omega
theorem Wf.take {m : List Ln} (h : Wf m) (k : Sp) (n : Int) : Wf (takeL m k n) := by
 unfold takeL
 split
 ·rename_i h0
  obtain ⟨h1, _, h2⟩ := takeE_zero h0
  exact h.less h1 h2
 ·exact h
theorem moveE_zero {m : List Ln} {x y : Pl} {c : ByteArray} {n : Int} (h : moveE m x y c n = 0) : takeE m (x, c) n = 0 ∧ placeErr y = 0 ∧ x ≠ y ∧ linesA m (x, c) (y, c) n ≤ 200 := by
 unfold moveE at h
 by_cases h1 : takeE m (x, c) n = 0
 ·rw [if_pos h1] at h
  by_cases h2 : placeErr y = 0
  ·rw [if_pos h2] at h
   by_cases h3 : x = y
   ·rw [if_pos h3] at h; omega
   ·rw [if_neg h3] at h
    by_cases h4 : 200 < linesA m (x, c) (y, c) n
    ·rw [if_pos h4] at h; omega
    ·exact ⟨h1, h2, h3, by omega⟩
  ·rw [if_neg h2] at h; exact absurd h h2
 ·rw [if_neg h1] at h; exact absurd h h1
theorem spot_ne {x y : Pl} {c : ByteArray} (h : x ≠ y) : ((x, c) : Sp) ≠ (y, c) := fun e => h (congrArg Prod.fst e)
theorem move_parts {m : List Ln} (h : Wf m) {x y : Pl} {c : ByteArray} {n : Int} (h1 : takeE m (x, c) n = 0) (h2 : placeErr y = 0) (h3 : x ≠ y) :
  putE (withL m (x, c) (atL m (x, c) - n)) y c n = (if 200 < linesA m (x, c) (y, c) n then 8 else 0) ∧ atL (withL m (x, c) (atL m (x, c) - n)) (y, c) = atL m (y, c) := by
 obtain ⟨t1, t2, t3⟩ := takeE_zero h1
 have h0 : atL m (x, c) ≠ 0 := by omega
 have hm := h.ok _ (mem_of_atL h0)
 have hw := h.less t1 t3
 have ea : atL (withL m (x, c) (atL m (x, c) - n)) (y, c) = atL m (y, c) := by rw [withL_atL, if_neg (fun e => spot_ne h3 e.symm)]
 have eo : ofL (withL m (x, c) (atL m (x, c) - n)) c = ofL m c - n := by rw [withL_ofL h.sorted, if_pos rfl]; omega
 have el := withL_length h (x, c) (atL m (x, c) - n)
 rw [if_neg h0] at el
 have hmost := h.most c
 have hlen := h.len
 refine ⟨?_, ea⟩
 unfold putE
 rw [if_pos h2, if_pos hm.2.1, eo, ea]
 rw [if_pos (by simp only [Bool.and_eq_true, decide_eq_true_eq, numW_iff]; omega)]
 unfold linesA
 by_cases e1 : atL m (x, c) = n
 ·rw [if_pos e1]
  rw [if_pos (show atL m (x, c) - n = 0 by omega)] at el
  by_cases e2 : atL m (y, c) = 0
  ·rw [if_pos e2]
   simp only [e2, true_and]
   split <;> split <;> omega
  ·rw [if_neg e2]
   simp only [e2, false_and, if_false]
   split <;> omega
 ·rw [if_neg e1]
  rw [if_neg (show ¬ atL m (x, c) - n = 0 by omega)] at el
  by_cases e2 : atL m (y, c) = 0
  ·rw [if_pos e2]
   simp only [e2, true_and]
   split <;> split <;> omega
  ·rw [if_neg e2]
   simp only [e2, false_and, if_false]
   split <;> omega
theorem Wf.move {m : List Ln} (h : Wf m) (x y : Pl) (c : ByteArray) (n : Int) : Wf (moveL m x y c n) := by
 unfold moveL
 split
 ·rename_i h0
  obtain ⟨h1, h2, h3, h4⟩ := moveE_zero h0
  obtain ⟨t1, t2, t3⟩ := takeE_zero h1
  obtain ⟨p1, p2⟩ := move_parts h h1 h2 h3
  rw [if_neg (by omega)] at p1
  have := (h.less t1 t3).put y c n
  unfold putL at this
  rw [if_pos p1, p2] at this
  exact this
 ·exact h
end Go.Proofs.YteomomeigbfeoaaGreatDoor
namespace Go.Proofs.YteomomeigbfeoaaGreatDoor
open Go.RowKit Go.Lib Go.Sort
open Go.Maps (Keyed)
abbrev agS (k : Sp) : Value := .agg #[.string k.1.1, .int .i64 k.1.2.1, .int .i64 k.1.2.2, .string k.2]
def entN (l : Ln) : Ent := (agS (keyL l), .int .i64 l.2.2)
structure KeyOk (k : Sp) : Prop where
 z : k.1.1.size ≤ maxLen
 r : (Lit.int .i64 k.1.2.1).wf = true
 b : (Lit.int .i64 k.1.2.2).wf = true
 c : k.2.size ≤ maxLen
theorem Tryz.laidOut : laidOutB Tryz.prog = true := by kernel_rfl
theorem Tryz.keyT : Tryz.prog.keyTypeAt 4 118 = true := by kernel_rfl
theorem Tryz.keyRow : 118 < Tryz.prog.types.size := of_decide_eq_true (by kernel_rfl)
theorem keyed : Keyed Tryz.prog 118 := Keyed.of_law (deep_law_laid Tryz.laidOut (m := 4) (by decide) Tryz.keyRow Tryz.keyT (by rw [Tryz.underlying118]))
theorem Tryz.keyTy : Tryz.prog.keyType 118 = true := by kernel_rfl
theorem Tryz.cellsSpot : Tryz.prog.cellsOf 118 = 4 := by kernel_rfl
theorem Tryz.cellsPl : Tryz.prog.cellsOf 28 = 3 := by kernel_rfl
theorem Tryz.cellsStr : Tryz.prog.cellsOf 9 = 1 := by kernel_rfl
theorem Tryz.cellsInt : Tryz.prog.cellsOf 3 = 1 := by kernel_rfl
theorem Tryz.typesN : ∃ n, Tryz.prog.types.size + 1 = n + 3 := ⟨Tryz.prog.types.size - 2, by have := Tryz.keyRow; omega⟩
theorem keyOf_spot {k : Sp} (h : KeyOk k) : ∃ l, keyOf Tryz.prog 118 (agS k) = some l := by
 obtain ⟨⟨a, r, b⟩, c⟩ := k
 obtain ⟨h1, h2, h3, h4⟩ := h
 simp only at h1 h2 h3 h4
 obtain ⟨n, hn⟩ := Tryz.typesN
 apply Option.isSome_iff_exists.1
 simp only [keyOf, Tryz.underlying118, Tryz.keyTy, Value.formed, Tryz.cellsSpot, hn]
 simp [Program.keyLits, Tryz.underlying118, Tryz.underlying28, Tryz.underlying9, Tryz.underlying3, Tryz.cellsSpot, Tryz.cellsPl, Tryz.cellsStr, Tryz.cellsInt, Value.cells, h1, h2, h3, h4]
 rw [if_pos]
 ·rfl
 ·intro i hi
  match i, hi with
  | 0, _ => simp
  | 1, _ => simp
  | 2, _ => simp
theorem agS_inj {k k' : Sp} (h : agS k = agS k') : k = k' := by
 obtain ⟨⟨a, r, b⟩, c⟩ := k
 obtain ⟨⟨a', r', b'⟩, c'⟩ := k'
 simp [agS] at h
 obtain ⟨rfl, rfl, rfl, rfl⟩ := h
 rfl
structure IsStock (w : World) (p b : Nat) (m : List Ln) : Prop where
 cell : w.cell? ⟨p, 0, none⟩ = some (.map (some b))
 map : MapL Tryz.prog 118 w b (m.map entN)
 wf : Wf m
theorem IsStock.lt {w : World} {p b : Nat} {m : List Ln} (h : IsStock w p b m) : p < w.heap.size ∧ b < w.heap.size := ⟨cell_lt h.cell, h.map.lt⟩
theorem IsStock.ne {w : World} {p b : Nat} {m : List Ln} (h : IsStock w p b m) : p ≠ b := h.map.ne_of_cells h.cell
theorem IsStock.below {w w' : World} {p b : Nat} {m : List Ln} {B : Nat} (h : IsStock w p b m) (hb : Below B w w') (h1 : p < B) (h2 : b < B) : IsStock w' p b m where
 cell := by rw [hb.cell (p := ⟨p, 0, none⟩) h1]; exact h.cell
 map := h.map.below hb h2
 wf := h.wf
theorem IsStock.all {w w' : World} {p b : Nat} {m : List Ln} (h : IsStock w p b m) (hb : Below w.heap.size w w') : IsStock w' p b m := h.below hb h.lt.1 h.lt.2
theorem IsStock.drew {w : World} {p b : Nat} {m : List Ln} (h : IsStock w p b m) (n : Nat) : IsStock (w.drewN n) p b m := h.all (below_drewN (Below.refl _ w) n)
theorem mem_ents {m : List Ln} {k : Sp} {v : Value} (h : (agS k, v) ∈ m.map entN) : ∃ l ∈ m, keyL l = k ∧ v = .int .i64 l.2.2 := by
 obtain ⟨l, hl, e⟩ := List.mem_map.1 h
 unfold entN at e
 simp only [Prod.mk.injEq] at e
 exact ⟨l, hl, agS_inj e.1, e.2.symm⟩
theorem ents_mem {m : List Ln} {l : Ln} (h : l ∈ m) : (agS (keyL l), Value.int .i64 l.2.2) ∈ m.map entN := List.mem_map.2 ⟨l, h, rfl⟩
theorem IsStock.look {w : World} {p b : Nat} {m : List Ln} (h : IsStock w p b m) {k : Sp} (hk : KeyOk k) : (Instr.lookup 114 (.map (some b)) (agS k) false).run Tryz.prog w = .ok (.int .i64 (atL m k)) w := by
 obtain ⟨kl, hkl⟩ := keyOf_spot hk
 by_cases h0 : atL m k = 0
 ·rw [h0]
  refine h.map.look_miss keyed Tryz.underlying114 hkl (Tryz.zeroValue3 w) fun v hv => ?_
  obtain ⟨l, hl, e, _⟩ := mem_ents hv
  exact (h.wf.at_zero k).1 h0 l hl e
 ·exact h.map.look_hit keyed Tryz.underlying114 hkl (ents_mem (mem_of_atL h0))
theorem IsStock.looks {w : World} {p b : Nat} {m : List Ln} (h : IsStock w p b m) {k : Sp} (hk : KeyOk k) : ∀ n, (Instr.lookup 114 (.map (some b)) (agS k) false).run Tryz.prog (w.drewN n) = .ok (.int .i64 (atL m k)) (w.drewN n) := fun n => (h.drew n).look hk
theorem IsStock.entry {w : World} {p b : Nat} {m : List Ln} (h : IsStock w p b m) {k : Sp} (hk : KeyOk k) :
  ∃ (st : Nat) (w2 : World), (Instr.mapEntry 114 (.map (some b)) (agS k)).run Tryz.prog w = .ok (.tuple #[.int .i64 (atL m k), .int .i64 st]) w2 ∧ (Instr.lookup 114 (.map (some b)) (agS k) false).run Tryz.prog w2 = .ok (.int .i64 (atL m k)) w2 ∧ w.mapTurned w2 b ∧
   ∀ n : Int, ∃ w3, (Instr.entryStore 114 (.map (some b)) (.int .i64 st) (.int .i64 n)).run Tryz.prog w2 = .ok () w3 ∧ MapL Tryz.prog 118 w3 b (((k.1, k.2, n) :: without m k).map entN) ∧ w.mapTurned w3 b := by
 obtain ⟨kl, hkl⟩ := keyOf_spot hk
 by_cases h0 : atL m k = 0
 ·have hne := (h.wf.at_zero k).1 h0
  obtain ⟨st, w2, e1, e2, e3, e4⟩ := h.map.entry_new keyed Tryz.underlying114 hkl Tryz.zeroValue3 (fun v hv => by
   obtain ⟨l, hl, e, _⟩ := mem_ents hv
   exact hne l hl e)
  rw [h0, without_same hne]
  exact ⟨st, w2, e1, e2, e3, fun n => e4 (.int .i64 n)⟩
 ·have hp := (without_perm h.wf.sorted.keys (mem_of_atL h0)).map entN
  obtain ⟨st, w2, e1, e2, e3, e4⟩ := h.map.entry_old keyed Tryz.underlying114 hkl hp
  exact ⟨st, w2, e1, e2, e3, fun n => e4 (.int .i64 n)⟩
theorem numWell_any (n : Int) (w : World) : Calls Tryz.prog 115 #[.int .i64 n] w fun e w' => e = .returned (.bool (numW n)) ∧ w' = w := by
 unfold numW
 by_cases h1 : 1 ≤ n
 ·by_cases h2 : n ≤ 1099511627776
  ·rw [decide_eq_true h1, decide_eq_true h2]
   go_enter Tryz.func115, Tryz.ntmps115
   go_wp2
   go_ret
   exact ⟨rfl, rfl⟩
  ·rw [decide_eq_true h1, decide_eq_false h2]
   go_enter Tryz.func115, Tryz.ntmps115
   go_wp2
   go_ret
   exact ⟨rfl, rfl⟩
 ·rw [decide_eq_false h1]
  go_enter Tryz.func115, Tryz.ntmps115
  go_wp2
  go_ret
  exact ⟨rfl, rfl⟩
theorem new_any (w : World) : Calls Tryz.prog 60 #[] w fun e w' => e = .returned (.pointer (some ⟨w.heap.size + 1, 0, none⟩)) ∧ IsStock w' (w.heap.size + 1) w.heap.size [] ∧ Below w.heap.size w w' := by
 have hmm := @run_makeMap Tryz.prog
 go_enter Tryz.func60, Tryz.ntmps60
 go_wp2
 go_ret
 refine ⟨rfl, ⟨by simp, ?_, Wf.nil⟩, ((Below.refl _ w).alloc (Nat.le_refl _) _).alloc (by simp) _⟩
 exact (MapL.made _ _ w).below ((Below.refl (w.heap.size + 1) _).alloc (by simp) _) (by omega)
theorem at_any (x : Pl) (c : ByteArray) (w : World) (p b : Nat) (m : List Ln) (h : IsStock w p b m) (hk : KeyOk (x, c)) :
  Calls Tryz.prog 32 #[.pointer (some ⟨p, 0, none⟩), agP x, .string c] w fun e w' => e = .returned (.int .i64 (atL m (x, c))) ∧ Below w.heap.size w w' := by
 have hB := (Below.refl w.heap.size w).alloc (Nat.le_refl _) (.cells #[.string x.1, .int .i64 x.2.1, .int .i64 x.2.2] 28)
 have h1 := (h.all hB)
 have hl := h1.looks hk
 have hc := h1.cell
 have HB : Hid (Below _ _ _) := hB
 clear hB h1 h hk
 obtain ⟨a, r, bb⟩ := x
 unfold agP agS at *
 simp only at *
 generalize atL m ((a, r, bb), c) = n at *
 go_enter Tryz.func32, Tryz.ntmps32
 go_wp2
 go_quiet (fail)
 go_wp2
 go_ret
 exact ⟨rfl, below_drewN HB.out _⟩
end Go.Proofs.YteomomeigbfeoaaGreatDoor
namespace Go.Proofs.YteomomeigbfeoaaGreatDoor
open Go.RowKit Go.Lib Go.Sort
open Go.Maps (Keyed)
theorem RangeL.perm {P : Program} {k : TypeId} {w : World} {b r : Nat} {L T T' : List Ent} (h : RangeL P k w b r L T) (hp : T.Perm T') : RangeL P k w b r L T' := by
 obtain ⟨es, clock, since, seen, c0, hb, hs, hk, hL, hr, hold, hT, rest⟩ := h
 exact ⟨es, clock, since, seen, c0, hb, hs, hk, hL, hr, hold, hT.trans hp, rest⟩
theorem perm_map_cons {t : List Ln} {x : Ent} {T : List Ent} (h : (t.map entN).Perm (x :: T)) : ∃ l t', x = entN l ∧ t.Perm (l :: t') ∧ T.Perm (t'.map entN) := by
 obtain ⟨l, hl, e⟩ := List.mem_map.1 (h.mem_iff.2 (List.mem_cons_self ..))
 obtain ⟨s1, s2, rfl⟩ := List.append_of_mem hl
 have h1 : (s1 ++ l :: s2).Perm (l :: (s1 ++ s2)) := List.perm_middle
 refine ⟨l, s1 ++ s2, e.symm, h1, ?_⟩
 have h2 := (h1.map entN).symm.trans h
 rw [List.map_cons, e] at h2
 exact h2.cons_inv.symm
section
variable {P : Program} {k : TypeId} {w : World} {ops : Array Oper} {rest : List Oper} {o : Oper} {a : Act} {Q : Exit → Act → World → Prop}
theorem wpK_next (hg : o.guard = none) (it : Operand) (hop : o.op = Op.next it false) (b r : Nat) (L : List Ent) (t : List Ln) (hit : a.eval it = .pointer (some ⟨r, 0, none⟩)) (h : RangeL P k w b r L (t.map entN))
  (hDone : t = [] → wpList P ops Q rest (a.put o.dst (.tuple #[.bool false])) w)
  (hMore : ∀ (za : ByteArray) (zr zb : Int) (zc : ByteArray) (zn : Int) t' w', t.Perm (((za, zr, zb), zc, zn) :: t') → RangeL P k w' b r L (t'.map entN) → w.grownBy w' (some r) → w'.heap.size = w.heap.size → (Instr.entry (.pointer (some ⟨r, 0, none⟩))).run P w' = .ok (.tuple #[.agg #[.string za, .int .i64 zr, .int .i64 zb, .string zc], .int .i64 zn]) w' →
   wpList P ops Q rest (a.put o.dst (.tuple #[.bool true, .agg #[.string za, .int .i64 zr, .int .i64 zb, .string zc], .int .i64 zn])) w') : wpList P ops Q (o :: rest) a w := by
 refine wpL_next hg it hop k b r L (t.map entN) hit h (fun e => hDone (by simpa using e)) fun x T' w' hp hrg hgr hsz hen => ?_
 obtain ⟨l, t', rfl, h1, h2⟩ := perm_map_cons hp
 obtain ⟨⟨za, zr, zb⟩, zc, zn⟩ := l
 exact hMore za zr zb zc zn t' w' h1 (hrg.perm h2) hgr hsz hen
end
theorem of_step {m d t t' : List Ln} {l : Ln} (c : ByteArray) (hw : Wf m) (hp : (d ++ t).Perm m) (hp1 : t.Perm (l :: t')) :
  0 ≤ ofL d c ∧ ofL d c + (if l.2.1 = c then l.2.2 else 0) ≤ 1099511627776 ∧ 1 ≤ l.2.2 ∧ l.2.2 ≤ 1099511627776 ∧ ((d ++ [l]) ++ t').Perm m ∧ ofL (d ++ [l]) c = ofL d c + (if l.2.1 = c then l.2.2 else 0) := by
 have h1 : ((d ++ [l]) ++ t').Perm m := by
  rw [List.append_assoc]
  exact ((hp1.symm.append_left d)).trans hp
 have hpos : ∀ x ∈ m, 1 ≤ x.2.2 := hw.pos
 have hl : l ∈ m := h1.mem_iff.1 (by simp)
 have e := ofL_perm h1 c
 rw [ofL_append] at e
 have e1 : ofL (d ++ [l]) c = ofL d c + (if l.2.1 = c then l.2.2 else 0) := by rw [ofL_append, ofL_cons, ofL_nil]; omega
 have n1 := ofL_nonneg (m := d) (fun x hx => hpos x (h1.mem_iff.1 (by simp [hx]))) c
 have n2 := ofL_nonneg (m := t') (fun x hx => hpos x (h1.mem_iff.1 (by simp [hx]))) c
 have := hw.most c
 exact ⟨n1, by omega, hpos l hl, hw.qty hl, h1, e1⟩
theorem grown_below {w wr w1 : World} {r : Nat} (hb : Below w.heap.size w wr) (hr : w.heap.size ≤ r) (hg : wr.grownBy w1 (some r)) : Below w.heap.size w w1 :=
 hb.trans ⟨hg.os, hg.tape, hg.output, hg.size, fun k hk => hg.block k (Nat.lt_of_lt_of_le hk hb.size) (fun e => by cases e; omega)⟩
theorem of_any (c : ByteArray) (w : World) (p b : Nat) (m : List Ln) (h : IsStock w p b m) :
  Calls Tryz.prog 22 #[.pointer (some ⟨p, 0, none⟩), .string c] w fun e w' => e = .returned (.int .i64 (ofL m c)) ∧ Below w.heap.size w w' := by
 have hc := h.cell
 have hm := h.map
 have hlt := h.lt
 have HW : Hid (Wf m) := h.wf
 clear h
 go_enter Tryz.func22, Tryz.ntmps22
 go_wp2_with (at_range; refine wpL_range rfl _ 114 rfl 118 3 Tryz.underlying114 b (m.map entN) rfl hm ?_; intro w0 hrg0 hg0 hs0)
 go_frame
 have hb0 : Below w.heap.size w w0 := ⟨hg0.os, hg0.tape, hg0.output, hg0.size, fun k hk => hg0.block k hk (by simp)⟩
 clear hg0 hs0 hm
 go_loopw [5] (fun s wr => ∃ d t : List Ln, (d ++ t).Perm m ∧ s = .int .i64 (ofL d c) ∧ RangeL Tryz.prog 118 wr b w.heap.size (m.map entN) (t.map entN) ∧ Below w.heap.size w wr) (fun _ wr => wr.rangeLeft b w.heap.size)
 case atStart => exact ⟨[], m, List.Perm.refl _, rfl, hrg0, hb0⟩
 case round =>
  obtain ⟨d, t, hp, rfl, hrg, hb⟩ := hrel
  go_wp2_with (at_next; refine wpK_next rfl _ rfl b w.heap.size _ t rfl hrg ?_ ?_)
  ·intro ht
   subst ht
   have e : ofL d c = ofL m c := by rw [← ofL_perm hp]; simp
   go_wp2
   go_ret
   exact ⟨by rw [← e]; rfl, hb⟩
  ·intro za zr zb zc zn t' w1 hp1 hrg1 hg1 hs1 hen
   have hb1 := grown_below hb (Nat.le_refl _) hg1
   obtain ⟨q1, q2, q3, q4, q5, q6⟩ := of_step c HW.out hp hp1
   have HP : Hid (((d ++ [((za, zr, zb), zc, zn)]) ++ t').Perm m) := q5
   have HQ : Hid (ofL (d ++ [((za, zr, zb), zc, zn)]) c = _) := q6
   have HM : Hid (wr.rangeLeft b w.heap.size = w1.rangeLeft b w.heap.size + 1) := by
    show _ = _
    rw [hrg.left_eq, hrg1.left_eq]
    have := hp1.length_eq
    simpa using this
   have hrg2 := fun o => hrg1.kept (World.grownBy_alloc w1 o none) (by simp) (by simp)
   have hl1 := fun o => ((hrg2 o).left_eq).trans hrg1.left_eq.symm
   clear q5 q6 hp hp1 hrg hrg1 hg1 hb
   simp only at q2 q3 q4
   by_cases hz : zc = c
   ·subst hz
    rw [if_pos rfl] at q2
    go_wp2
    go_roundw
    case rel => exact ⟨_, t', HP.out, by rw [HQ.out, if_pos rfl], hrg2 _, hb1.alloc hb1.size _⟩
    case measure => show World.rangeLeft _ _ _ < _; rw [HM.out, hl1]; exact Nat.lt_succ_self _
   ·have e3 := same_eq zc c
    rw [decide_eq_false hz] at e3
    go_wp2
    go_roundw
    case rel => exact ⟨_, t', HP.out, by rw [HQ.out, if_neg hz, Int.add_zero], hrg2 _, hb1.alloc hb1.size _⟩
    case measure => show World.rangeLeft _ _ _ < _; rw [HM.out, hl1]; exact Nat.lt_succ_self _
end Go.Proofs.YteomomeigbfeoaaGreatDoor
namespace Go.Proofs.YteomomeigbfeoaaGreatDoor
open Go.Lib Go.Sort
theorem fold_ge : ∀ (l : List UInt8) (a : Nat), a ≤ l.foldl (fun n c => n * 10 + (c.toNat - 48)) a
 | [], a => Nat.le_refl _
 | c :: l, a => by
  rw [List.foldl_cons]
  exact Nat.le_trans (by omega) (fold_ge l _)
theorem numVal_pos {l : List UInt8} (h1 : l.all dig = true) (h2 : l ≠ []) (h3 : (l.headD 0).toNat ≠ 48) : 1 ≤ numVal l := by
 cases l with
 | nil => exact absurd rfl h2
 | cons c r =>
  simp only [List.all_cons, Bool.and_eq_true] at h1
  simp only [List.headD_cons] at h3
  have : 48 ≤ c.toNat := by have := h1.1; simp [dig] at this; exact this.1
  unfold numVal
  rw [List.foldl_cons]
  exact Nat.le_trans (by omega) (fold_ge r _)
theorem dec_num : ∀ (n : Nat) (l : List UInt8), l.length = n → l.all dig = true → l ≠ [] → (1 < l.length → (l.headD 0).toNat ≠ 48) → decDigits (numVal l) = l
 | n, l, hn, h1, h2, h3 => by
  obtain ⟨r, c, rfl⟩ : ∃ r c, l = r ++ [c] := ⟨l.dropLast, l.getLast h2, (List.dropLast_concat_getLast h2).symm⟩
  rw [List.all_append, Bool.and_eq_true] at h1
  have hc : dig c = true := by simpa using h1.2
  have hc' : 48 ≤ c.toNat ∧ c.toNat ≤ 57 := by simpa [dig] using hc
  have ec : UInt8.ofNat (48 + (c.toNat - 48)) = c := by
   rw [show 48 + (c.toNat - 48) = c.toNat by omega]; exact UInt8.ofNat_toNat
  rw [numVal_snoc]
  cases r with
  | nil =>
   have e : numVal [] = 0 := rfl
   rw [e, decDigits, dif_pos (by omega)]
   simp only [Nat.zero_mul, Nat.zero_add]
   rw [ec]; rfl
  | cons d r =>
   have hh : ((d :: r).headD 0).toNat ≠ 48 := by
    have := h3 (by simp)
    simpa using this
   have hp := numVal_pos h1.1 (by simp) hh
   have ih := dec_num r.length.succ (d :: r) rfl h1.1 (by simp) (fun _ => hh)
   rw [decDigits, dif_neg (by omega)]
   have e1 : (numVal (d :: r) * 10 + (c.toNat - 48)) / 10 = numVal (d :: r) := by omega
   have e2 : (numVal (d :: r) * 10 + (c.toNat - 48)) % 10 = c.toNat - 48 := by omega
   rw [e1, e2, ih, ec]
 termination_by n => n
 decreasing_by
  subst hn
  simp
theorem isNum_facts {most : Nat} {l : List UInt8} (h : isNum most l = true) : l.all dig = true ∧ l ≠ [] ∧ l.length ≤ most ∧ (1 < l.length → (l.headD 0).toNat ≠ 48) := by
 unfold isNum at h
 simp only [Bool.and_eq_true, Bool.not_eq_true', Bool.and_eq_false_iff, decide_eq_true_eq, decide_eq_false_iff_not] at h
 obtain ⟨⟨⟨h1, h2⟩, h3⟩, h4⟩ := h
 refine ⟨h4, by intro e; subst e; simp at h1, h2, fun h => ?_⟩
 rcases h3 with h3 | h3
 ·exact absurd h h3
 ·exact h3
theorem dec_isNum {most : Nat} {l : List UInt8} (h : isNum most l = true) : decDigits (numVal l) = l := by
 obtain ⟨h1, h2, _, h3⟩ := isNum_facts h
 exact dec_num _ l rfl h1 h2 h3
theorem has_of_all {c : UInt8} {f : UInt8 → Bool} (hf : f c = false) {l : List UInt8} (h : l.all f = true) : has c l = false := by
 unfold has
 rw [List.any_eq_false]
 intro x hx e
 have := List.all_eq_true.1 h x hx
 rw [beq_iff_eq.1 e, hf] at this
 cases this
theorem name_all {l : List UInt8} (h : isName l = true) : l.all nameB = true := by unfold isName at h; simp only [Bool.and_eq_true] at h; exact h.1
theorem has_name {c : UInt8} (hc : nameB c = false) {l : List UInt8} (h : isName l = true) : has c l = false := has_of_all hc (name_all h)
theorem has_append (c : UInt8) (a b : List UInt8) : has c (a ++ b) = (has c a || has c b) := by unfold has; rw [List.any_append]
theorem has_cons (c d : UInt8) (b : List UInt8) : has c (d :: b) = ((d == c) || has c b) := by unfold has; rw [List.any_cons]
theorem cut_at {c : UInt8} {a : List UInt8} (b : List UInt8) (h : has c a = false) : has c (a ++ c :: b) = true ∧ cutA c (a ++ c :: b) = a ∧ cutB c (a ++ c :: b) = b := by
 obtain ⟨h1, h2, h3⟩ := pre_append c a b h
 exact ⟨h3, by rw [cutA_yes h3, h1], by rw [cutB_yes h3, h2]⟩
theorem cut_back {c : UInt8} {l : List UInt8} (h : has c l = true) : cutA c l ++ c :: cutB c l = l := by
 rw [cutA_yes h, cutB_yes h]; exact ((has_parts c l h).1).symm
def pbytes (x : Pl) : List UInt8 := (ptext x).data.toList
theorem append_bytes (a b : ByteArray) : (a ++ b).data.toList = a.data.toList ++ b.data.toList := by simp [ByteArray.data_append]
theorem pbytes_ok {x : Pl} (h : okP x = true) : pbytes x = x.1.data.toList ++ 45 :: (decDigits x.2.1.toNat ++ 45 :: decDigits x.2.2.toNat) := by
 unfold pbytes ptext
 rw [if_pos h]
 simp only [append_bytes]
 simp
theorem dec_free (c : UInt8) (hc : dig c = false) (u : Nat) : has c (decDigits u) = false := has_of_all hc (all_dec u)
theorem pbytes_free {x : Pl} (h : okP x = true) {c : UInt8} (h1 : nameB c = false) (h2 : dig c = false) (h3 : c ≠ 45) : has c (pbytes x) = false := by
 rw [pbytes_ok h, has_append, has_cons, has_append, has_cons, has_name h1 (okP_bounds h).1, dec_free c h2, dec_free c h2]
 have : ((45 : UInt8) == c) = false := by
  cases e : ((45 : UInt8) == c) with
  | false => rfl
  | true => exact absurd (beq_iff_eq.1 e).symm h3
 simp [this]
theorem readP_pbytes {x : Pl} (h : okP x = true) : readP (pbytes x) = (x, 0) := by
 obtain ⟨hn, a1, a2, a3, a4⟩ := okP_bounds h
 obtain ⟨q1, q2, q3⟩ := cut_at (c := 45) (decDigits x.2.1.toNat ++ 45 :: decDigits x.2.2.toNat) (has_name (by decide) hn)
 obtain ⟨r1, r2, r3⟩ := cut_at (c := 45) (decDigits x.2.2.toNat) (dec_free 45 (by decide) x.2.1.toNat)
 have n1 := isNum_dec 4 x.2.1.toNat (by decide) (by omega)
 have n2 := isNum_dec 4 x.2.2.toNat (by decide) (by omega)
 have e1 : plNum (pbytes x) = true := by
  unfold plNum
  rw [pbytes_ok h, q3, r2, r3, n1, n2]; rfl
 have e2 : plOf (pbytes x) = x := by
  unfold plOf
  rw [pbytes_ok h, q2, q3, r2, r3, numR_yes n1, numR_yes n2, numVal_dec, numVal_dec]
  obtain ⟨a, r, b⟩ := x
  simp only at a1 a2 a3 a4 ⊢
  rw [show ((r.toNat : Nat) : Int) = r by omega, show ((b.toNat : Nat) : Int) = b by omega]
 unfold readP
 rw [if_pos e1, e2, if_pos ((okP_err x).1 h)]
theorem pbytes_readP {l : List UInt8} {x : Pl} (h : readP l = (x, 0)) : okP x = true ∧ pbytes x = l := by
 unfold readP at h
 by_cases h1 : plNum l = true
 ·rw [if_pos h1] at h
  by_cases h2 : placeErr (plOf l) = 0
  ·rw [if_pos h2] at h
   have e : plOf l = x := congrArg Prod.fst h
   have hok : okP x = true := by rw [← e]; exact (okP_err _).2 h2
   refine ⟨hok, ?_⟩
   have hm : isNum 4 (cutA 45 (cutB 45 l)) = true ∧ isNum 4 (cutB 45 (cutB 45 l)) = true := by unfold plNum at h1; simpa using h1
   have hz1 : has 45 (cutB 45 l) = true := by
    cases hh : has 45 (cutB 45 l) with
    | true => rfl
    | false => exact absurd (cutB_no hh) (isNum_ne hm.2)
   have hz2 : has 45 l = true := by
    cases hh : has 45 l with
    | true => rfl
    | false => rw [cutB_no hh] at hz1; cases hz1
   rw [pbytes_ok hok, ← e]
   unfold plOf
   simp only
   rw [numR_yes hm.1, numR_yes hm.2]
   simp only [Int.toNat_natCast]
   rw [dec_isNum hm.1, dec_isNum hm.2, cut_back hz1]
   simpa using cut_back hz2
  ·rw [if_neg h2] at h
   exact absurd (congrArg Prod.snd h) h2
 ·rw [if_neg h1] at h
  have := congrArg Prod.snd h
  simp at this
def lineB (l : Ln) : List UInt8 := pbytes l.1 ++ 32 :: (l.2.1.data.toList ++ 32 :: decDigits l.2.2.toNat)
def textB (m : List Ln) : List UInt8 := m.flatMap fun l => lineB l ++ [10]
def wordsK (l : List UInt8) : Bool := has 32 l && has 32 (cutB 32 l)
def numK (l : List UInt8) : Bool := wordsK l && isNum 13 (cutB 32 (cutB 32 l))
def zeroN : Ln := (zeroP, ⟨#[]⟩, 0)
def lnOf (l : List UInt8) : Ln := ((readP (cutA 32 l)).1, ⟨(cutA 32 (cutB 32 l)).toArray⟩, numVal (cutB 32 (cutB 32 l)))
def lnErr (l : List UInt8) : Nat := if numK l then (if (readP (cutA 32 l)).2 = 0 then (if isName (cutA 32 (cutB 32 l)) then (if numW (numVal (cutB 32 (cutB 32 l))) then 0 else 2) else 5) else (readP (cutA 32 l)).2) else 1
def readN (l : List UInt8) : Ln × Nat := if lnErr l = 0 then (lnOf l, 0) else (zeroN, lnErr l)
def okN (l : Ln) : Prop := okP l.1 = true ∧ isName l.2.1.data.toList = true ∧ 1 ≤ l.2.2 ∧ l.2.2 ≤ 1099511627776
theorem lineB_free {l : Ln} (h : okN l) : has 10 (lineB l) = false := by
 unfold lineB
 rw [has_append, has_cons, has_append, has_cons, pbytes_free h.1 (by decide) (by decide) (by decide), has_name (by decide) h.2.1, dec_free 10 (by decide)]
 rfl
theorem readN_lineB {l : Ln} (h : okN l) : readN (lineB l) = (l, 0) := by
 obtain ⟨h1, h2, h3, h4⟩ := h
 obtain ⟨q1, q2, q3⟩ := cut_at (c := 32) (l.2.1.data.toList ++ 32 :: decDigits l.2.2.toNat) (pbytes_free h1 (by decide) (by decide) (by decide))
 obtain ⟨r1, r2, r3⟩ := cut_at (c := 32) (decDigits l.2.2.toNat) (has_name (c := 32) (by decide) h2)
 have n1 := isNum_dec 13 l.2.2.toNat (by decide) (by omega)
 have e0 : lnErr (lineB l) = 0 := by
  unfold lnErr numK wordsK lineB
  rw [q1, q2, q3, r1, r2, r3, n1, readP_pbytes h1, numVal_dec]
  simp only [Bool.and_self, if_true]
  rw [if_pos h2, if_pos ((numW_iff _).2 (by omega))]
 have e1 : lnOf (lineB l) = l := by
  unfold lnOf lineB
  rw [q2, q3, r2, r3, readP_pbytes h1, numVal_dec]
  obtain ⟨p, c, n⟩ := l
  simp only at h3 h4 ⊢
  rw [show ((n.toNat : Nat) : Int) = n by omega]
 unfold readN
 rw [if_pos e0, e1]
theorem lnOf_facts {l : List UInt8} (h : lnErr l = 0) : okN (lnOf l) ∧ lineB (lnOf l) = l := by
 unfold lnErr at h
 by_cases h1 : numK l = true
 ·rw [if_pos h1] at h
  by_cases h2 : (readP (cutA 32 l)).2 = 0
  ·rw [if_pos h2] at h
   by_cases h3 : isName (cutA 32 (cutB 32 l)) = true
   ·rw [if_pos h3] at h
    by_cases h4 : numW (numVal (cutB 32 (cutB 32 l))) = true
    ·unfold numK wordsK at h1
     simp only [Bool.and_eq_true] at h1
     obtain ⟨p1, p2⟩ := pbytes_readP (l := cutA 32 l) (x := (readP (cutA 32 l)).1) (by rw [← h2])
     refine ⟨⟨p1, by simpa [lnOf] using h3, ((numW_iff _).1 h4).1, ((numW_iff _).1 h4).2⟩, ?_⟩
     unfold lineB lnOf
     simp only [Int.toNat_natCast]
     rw [p2, dec_isNum h1.2, cut_back h1.1.2]
     exact cut_back h1.1.1
    ·rw [if_neg h4] at h; omega
   ·rw [if_neg h3] at h; omega
  ·rw [if_neg h2] at h; exact absurd h h2
 ·rw [if_neg h1] at h; omega
def behind (m : List Ln) (x : Ln) : Bool := match m.getLast? with | some l => aheadN l x | none => true
def stepE (m : List Ln) (l : List UInt8) : Nat := if lnErr l = 0 then (if behind m (lnOf l) then putE m (lnOf l).1 (lnOf l).2.1 (lnOf l).2.2 else 10) else lnErr l
def stepM (m : List Ln) (l : List UInt8) : List Ln := putL m (lnOf l).1 (lnOf l).2.1 (lnOf l).2.2
def readS (m : List Ln) (i : Nat) : List (List UInt8) → List Ln × Nat × Nat
 | [] => (m, 0, 0)
 | [l] => if l = [] then (m, 0, 0) else ([], 1, i)
 | l :: r => if stepE m l = 0 then readS (stepM m l) (i + 1) r else ([], stepE m l, i)
theorem readS_last (m : List Ln) (i : Nat) (l : List UInt8) : readS m i [l] = if l = [] then (m, 0, 0) else ([], 1, i) := by unfold readS; rfl
theorem readS_step (m : List Ln) (i : Nat) (l : List UInt8) {r : List (List UInt8)} (h : r ≠ []) : readS m i (l :: r) = if stepE m l = 0 then readS (stepM m l) (i + 1) r else ([], stepE m l, i) := by
 cases r with
 | nil => exact absurd rfl h
 | cons a r => rw [readS]; simp
theorem behind_all {m : List Ln} (hs : Sorted m) {x : Ln} (h : behind m x = true) : ∀ l ∈ m, aheadN l x = true := by
 unfold behind at h
 cases hm : m.getLast? with
 | none => rw [List.getLast?_eq_none_iff] at hm; subst hm; simp
 | some z =>
  rw [hm] at h
  simp only at h
  obtain ⟨ys, rfl⟩ := List.getLast?_eq_some_iff.1 hm
  intro l hl
  rcases List.mem_append.1 hl with hl | hl
  ·unfold Sorted at hs
   rw [List.pairwise_append] at hs
   exact aheadK_trans (hs.2.2 l hl z (by simp)) h
  ·obtain rfl : l = z := by simpa using hl
   exact h
theorem insN_last : ∀ {m : List Ln} {x : Ln}, (∀ l ∈ m, aheadN l x = true) → insN x m = m ++ [x]
 | [], x, _ => rfl
 | l :: r, x, h => by
  unfold insN
  have := aheadK_asymm (h l (by simp))
  rw [← aheadN_key] at this
  rw [if_neg (by rw [this]; decide), insN_last fun y hy => h y (by simp [hy])]; rfl
theorem put_last {m : List Ln} (hs : Sorted m) {x : Ln} (h : behind m x = true) (h0 : putE m x.1 x.2.1 x.2.2 = 0) : putL m x.1 x.2.1 x.2.2 = m ++ [x] := by
 have hall := behind_all hs h
 have hne : ∀ l ∈ m, keyL l ≠ (x.1, x.2.1) := fun l hl => aheadK_ne (hall l hl)
 obtain ⟨_, _, h3, _, _⟩ := putE_zero h0
 unfold putL
 rw [if_pos h0, atL_none hne]
 unfold withL
 rw [if_neg (by omega), without_same hne]
 simp only [Int.zero_add]
 exact insN_last hall
theorem stepE_zero {m : List Ln} {l : List UInt8} (h : stepE m l = 0) : lnErr l = 0 ∧ behind m (lnOf l) = true ∧ putE m (lnOf l).1 (lnOf l).2.1 (lnOf l).2.2 = 0 := by
 unfold stepE at h
 by_cases h1 : lnErr l = 0
 ·rw [if_pos h1] at h
  by_cases h2 : behind m (lnOf l) = true
  ·rw [if_pos h2] at h; exact ⟨h1, h2, h⟩
  ·rw [if_neg h2] at h; omega
 ·rw [if_neg h1] at h; exact absurd h h1
theorem stepM_last {m : List Ln} (hs : Sorted m) {l : List UInt8} (h : stepE m l = 0) : stepM m l = m ++ [lnOf l] := by
 obtain ⟨h1, h2, h3⟩ := stepE_zero h
 exact put_last hs h2 h3
theorem textB_append (m m' : List Ln) : textB (m ++ m') = textB m ++ textB m' := by unfold textB; rw [List.flatMap_append]
theorem textB_one (l : Ln) : textB [l] = lineB l ++ [10] := by unfold textB; simp
theorem readS_back : ∀ (r m : List Ln) (i : Nat), Wf (m ++ r) → readS m i (splitL 10 (textB r)) = (m ++ r, 0, 0)
 | [], m, i, _ => by
  have : textB [] = [] := rfl
  rw [this, split_none rfl, readS_last]; simp
 | x :: r, m, i, hw => by
  have e : textB (x :: r) = lineB x ++ 10 :: textB r := by unfold textB; simp
  have hx := hw.ok x (by simp)
  have hok : okN x := ⟨hx.1, hx.2.1, hx.2.2, hw.qty (by simp)⟩
  obtain ⟨q1, q2, q3⟩ := pre_append 10 (lineB x) (textB r) (lineB_free hok)
  have hr := readN_lineB hok
  unfold readN at hr
  have e0 : lnErr (lineB x) = 0 := by
   by_cases h : lnErr (lineB x) = 0
   ·exact h
   ·rw [if_neg h] at hr; exact absurd (congrArg Prod.snd hr) h
  rw [if_pos e0] at hr
  have e1 : lnOf (lineB x) = x := congrArg Prod.fst hr
  have hs := hw.sorted
  unfold Sorted at hs
  rw [List.pairwise_append] at hs
  have hm : Sorted m := hs.1
  have hall : ∀ l ∈ m, aheadN l x = true := fun l hl => hs.2.2 l hl x (by simp)
  have hbe : behind m x = true := by
   unfold behind
   cases hg : m.getLast? with
   | none => rfl
   | some z => exact hall z (List.mem_of_getLast? hg)
  have hne : ∀ l ∈ m, keyL l ≠ (x.1, x.2.1) := fun l hl => aheadK_ne (hall l hl)
  have hmost := hw.most x.2.1
  have hlen := hw.len
  have hpos : ∀ c, 0 ≤ ofL r c := fun c => ofL_nonneg (fun l hl => hw.pos l (by simp [hl])) c
  rw [ofL_append, ofL_cons, if_pos rfl] at hmost
  simp only [List.length_append, List.length_cons] at hlen
  have hput : putE m x.1 x.2.1 x.2.2 = 0 := by
   have := hpos x.2.1
   have hq := hok.2.2
   unfold putE
   rw [if_pos ((okP_err _).1 hok.1), if_pos hok.2.1, if_pos (by simp only [Bool.and_eq_true, decide_eq_true_eq, numW_iff]; omega), if_neg (by omega)]
  have hst : stepE m (lineB x) = 0 := by unfold stepE; rw [if_pos e0, e1, if_pos hbe, hput]
  have hsm : stepM m (lineB x) = m ++ [x] := by rw [stepM_last hm hst, e1]
  rw [e, split_some q3, q1, q2, readS_step _ _ _ (split_pos 10 _), if_pos hst, hsm, readS_back r (m ++ [x]) (i + 1) (by simpa using hw)]
  simp
end Go.Proofs.YteomomeigbfeoaaGreatDoor
namespace Go.Proofs.YteomomeigbfeoaaGreatDoor
open Go.RowKit Go.Lib Go.Sort
open Go.Maps (Keyed)
structure Five (w : World) (s : Nat → Addr) : Prop where
 two : Two w s
 shape : w.cell? ⟨0, 0, none⟩ = some (err (s 2))
 full : w.cell? ⟨5, 0, none⟩ = some (err (s 7))
 short : w.cell? ⟨3, 0, none⟩ = some (err (s 8))
theorem Five.below {w w' : World} {s : Nat → Addr} (h : Five w s) (hb : Below w.heap.size w w') : Five w' s where
 two := h.two.below hb
 shape := by rw [hb.cell (p := ⟨0, 0, none⟩) (cell_lt h.shape)]; exact h.shape
 full := by rw [hb.cell (p := ⟨5, 0, none⟩) (cell_lt h.full)]; exact h.full
 short := by rw [hb.cell (p := ⟨3, 0, none⟩) (cell_lt h.short)]; exact h.short
theorem Sent.five {w : World} {s : Nat → Addr} (h : Sent w s) : Five w s := ⟨h.two, h.cell 2 (by decide), h.cell 7 (by decide), h.cell 8 (by decide)⟩
abbrev boxS (w : World) (k : Sp) : World := w.alloc (.cells #[.string k.1.1, .int .i64 k.1.2.1, .int .i64 k.1.2.2, .string k.2] 118)
theorem boxS_below (w : World) (k : Sp) : Below w.heap.size w (boxS w k) := (Below.refl _ w).alloc (Nat.le_refl _) _
theorem checkTake_any (k : Sp) (n : Int) (w : World) (s : Nat → Addr) (p b : Nat) (m : List Ln) (h : IsStock w p b m) (hk : KeyOk k) (hs : Five w s) :
  Calls Tryz.prog 171 #[.pointer (some ⟨p, 0, none⟩), agS k, .int .i64 n] w fun e w' => e = .returned (errP s (takeE m k n)) ∧ Below w.heap.size w w' := by
 have hB := boxS_below w k
 have h1 := h.all hB
 have hl := h1.looks hk
 have hc := h1.cell
 obtain ⟨⟨g1, _⟩, _, _, g2⟩ := hs.below hB
 have hn := fun w => numWell_any n w
 have HB : Hid (Below _ _ _) := hB
 clear hB h1 h hk hs
 have HT : Hid (takeE m k n = if numW n = true then (if n ≤ atL m k then 0 else 9) else 2) := rfl
 generalize atL m k = v at *
 generalize takeE m k n = E at *
 obtain ⟨⟨a, r, bb⟩, c⟩ := k
 unfold agS boxS at *
 simp only at *
 cases hw : numW n with
 | false =>
  rw [hw] at hn
  have HE : Hid (errP s E = err (s 1)) := by show _ = _; rw [HT.out, hw]; rfl
  clear HT
  go_enter Tryz.func171, Tryz.ntmps171
  go_wp2_with (go_at_call 115; refine (hn _).mono ?_; rintro e w1 ⟨rfl, rfl⟩)
  go_ret
  exact ⟨by rw [HE.out]; rfl, HB.out⟩
 | true =>
  rw [hw] at hn
  by_cases hv : n ≤ v
  ·have HE : Hid (errP s E = .nilIface) := by show _ = _; rw [HT.out, hw, if_pos rfl, if_pos hv]; rfl
   clear HT
   have hd : decide (v < n) = false := decide_eq_false (by omega)
   go_enter Tryz.func171, Tryz.ntmps171
   go_wp2_with (go_at_call 115; refine (hn _).mono ?_; rintro e w1 ⟨rfl, rfl⟩)
   go_quiet (fail)
   go_wp2
   go_ret
   exact ⟨by rw [HE.out]; rfl, below_drewN HB.out _⟩
  ·have HE : Hid (errP s E = err (s 8)) := by show _ = _; rw [HT.out, hw, if_pos rfl, if_neg hv]; rfl
   clear HT
   have hd : decide (v < n) = true := decide_eq_true (by omega)
   go_enter Tryz.func171, Tryz.ntmps171
   go_wp2_with (go_at_call 115; refine (hn _).mono ?_; rintro e w1 ⟨rfl, rfl⟩)
   go_quiet (fail)
   go_wp2
   go_ret
   exact ⟨by rw [HE.out]; rfl, below_drewN HB.out _⟩
structure BoxS (n : Nat) (k : Sp) (W : World) : Prop where
 c0 : W.cell? ⟨n, 0, none⟩ = some (.string k.1.1)
 c1 : W.cell? ⟨n, 1, none⟩ = some (.int .i64 k.1.2.1)
 c2 : W.cell? ⟨n, 2, none⟩ = some (.int .i64 k.1.2.2)
 c3 : W.cell? ⟨n, 3, none⟩ = some (.string k.2)
theorem BoxS.of_block {n : Nat} {k : Sp} {W W' : World} (h : BoxS n k W) (hb : W'.heap[n]? = W.heap[n]?) : BoxS n k W' where
 c0 := (World.cell?_of_block (a := ⟨n, 0, none⟩) hb).trans h.c0
 c1 := (World.cell?_of_block (a := ⟨n, 1, none⟩) hb).trans h.c1
 c2 := (World.cell?_of_block (a := ⟨n, 2, none⟩) hb).trans h.c2
 c3 := (World.cell?_of_block (a := ⟨n, 3, none⟩) hb).trans h.c3
theorem BoxS.lt {n : Nat} {k : Sp} {W : World} (h : BoxS n k W) : n < W.heap.size := cell_lt h.c0
theorem BoxS.below {n : Nat} {k : Sp} {W W' : World} (h : BoxS n k W) (hb : Below W.heap.size W W') : BoxS n k W' := h.of_block (hb.block n h.lt)
theorem BoxS.new (w : World) (k : Sp) (t n : Nat) (hn : n = w.heap.size) : BoxS n k (w.alloc (.cells #[.string k.1.1, .int .i64 k.1.2.1, .int .i64 k.1.2.2, .string k.2] t)) where
 c0 := by rw [World.cell?_alloc_at _ _ _ _ hn]; rfl
 c1 := by rw [World.cell?_alloc_at _ _ _ _ hn]; rfl
 c2 := by rw [World.cell?_alloc_at _ _ _ _ hn]; rfl
 c3 := by rw [World.cell?_alloc_at _ _ _ _ hn]; rfl
theorem Below.grownAll {w w' : World} (h : Below w.heap.size w w') (row : Option Nat) : w.grownBy w' row := ⟨h.os, h.tape, h.output, h.size, fun k hk _ => h.block k hk⟩
theorem grown_drewN (w : World) (n : Nat) (row : Option Nat) : w.grownBy (w.drewN n) row := ⟨rfl, rfl, rfl, Nat.le_refl _, fun _ _ _ => rfl⟩
theorem grown_trans {a b' c : World} {row : Option Nat} (h : a.grownBy b' row) (k : b'.grownBy c row) : a.grownBy c row := h.andThen k fun _ hj => Or.inr hj
theorem less_any (k : Sp) (n : Int) (w : World) (p b : Nat) (m : List Ln) (h : IsStock w p b m) (hk : KeyOk k) (hn : 1 ≤ n) (hm : n ≤ atL m k) :
  Calls Tryz.prog 172 #[.pointer (some ⟨p, 0, none⟩), agS k, .int .i64 n] w fun e w' => e = .returned (.tuple #[]) ∧ IsStock w' p b (withL m k (atL m k - n)) ∧ w.grownBy w' (some b) := by
 have hB := boxS_below w k
 have h1 := h.all hB
 have hbx : BoxS w.heap.size k (boxS w k) := BoxS.new w k _ _ rfl
 have hpb := h.ne
 have hqb : w.heap.size ≠ b := fun e => by have := h.lt.2; omega
 have hg1 : w.grownBy (boxS w k) (some b) := Below.grownAll hB _
 have HW : Hid (Wf (withL m k (atL m k - n))) := h.wf.less hn hm
 have hv0 := h.wf.at_nonneg k
 have hv1 : atL m k ≤ 1099511627776 := Int.le_trans (h.wf.at_le k) (h.wf.most _)
 obtain ⟨kl, hkl⟩ := keyOf_spot hk
 have hS : IsStock (boxS w k).drew p b m := ⟨h1.cell, h1.map, h1.wf⟩
 obtain ⟨st, w2, e1, e2, e3, e4⟩ := hS.entry hk
 have hl := hS.look hk
 obtain ⟨w3, e5, e6, e7⟩ := e4 (atL m k - n)
 have hc := h1.cell
 have hb2 := BoxS.of_block (W := (boxS w k).drew) (W' := w2) (hbx.of_block rfl) (turned_block e3 hqb)
 have hc2 : w2.cell? ⟨p, 0, none⟩ = some (.map (some b)) := (turned_cell (p := ⟨p, 0, none⟩) e3 hpb).trans h1.cell
 have hb3 := BoxS.of_block (W := (boxS w k).drew) (W' := w3) (hbx.of_block rfl) (turned_block e7 hqb)
 have hc3 : w3.cell? ⟨p, 0, none⟩ = some (.map (some b)) := (turned_cell (p := ⟨p, 0, none⟩) e7 hpb).trans h1.cell
 have hg3 : w.grownBy w3 (some b) := grown_trans (grown_trans hg1 (grown_drewN _ 1 _)) e7.grown
 have hl3 : ∀ q, (Instr.lookup 114 (.map (some b)) (agS k) false).run Tryz.prog (w3.drewN q) = .ok (.int .i64 (atL m k - n)) (w3.drewN q) := fun q => (MapL.of_block (w' := w3.drewN q) e6 rfl).look_hit keyed Tryz.underlying114 hkl (List.mem_cons_self ..)
 have hD : ∀ q, ∃ w4, (∀ ty, (Builtin.delete_ #[114, 118] ty #[.map (some b), agS k]).run Tryz.prog (w3.drewN q) = .ok (.tuple #[]) w4) ∧ MapL Tryz.prog 118 w4 b ((without m k).map entN) ∧ (w3.drewN q).mapTurned w4 b := fun q => (MapL.of_block (w' := w3.drewN q) e6 rfl).drop keyed Tryz.underlying114 hkl (u := .int .i64 (atL m k - n)) (List.Perm.refl _)
 have HM : Hid (MapL Tryz.prog 118 w3 b (((k.1, k.2, atL m k - n) :: without m k).map entN)) := e6
 have HG : Hid (w.grownBy w3 (some b)) := hg3
 have HD : Hid (∀ q, ∃ w4, _) := hD
 have HP : Hid (p ≠ b) := hpb
 clear hS e3 e4 e6 e7 h1 hB h hkl hk hg1 hg3 hD hpb hqb
 have HX : Hid (atL m k - n = 0 → withL m k (atL m k - n) = without m k) := fun e => by rw [e, withL_zero]
 have HY : Hid (atL m k - n ≠ 0 → (withL m k (atL m k - n)).Perm ((k.1, k.2, atL m k - n) :: without m k)) := fun e => withL_perm e
 generalize withL m k (atL m k - n) = m' at *
 generalize without m k = mo at *
 generalize atL m k = v at *
 obtain ⟨⟨a, r, bb⟩, c⟩ := k
 unfold agS boxS at *
 simp only at *
 obtain ⟨x0, x1, x2, x3⟩ := hbx
 obtain ⟨y0, y1, y2, y3⟩ := hb2
 obtain ⟨z0, z1, z2, z3⟩ := hb3
 simp only at x0 x1 x2 x3 y0 y1 y2 y3 z0 z1 z2 z3
 go_enter Tryz.func172, Tryz.ntmps172
 go_wp2
 generalize w.alloc (.cells #[.string a, .int .i64 r, .int .i64 bb, .string c] 118) = W at *
 go_region
 by_cases hv : v - n = 0
 ·have hvb : (v - n == 0) = true := by simpa using hv
  have HX' := HX.out hv
  go_wp2
  go_quiet (fail)
  go_wp2
  obtain ⟨w4, d1, d2, d3⟩ := HD.out (nq + 1)
  have hc4 : w4.cell? ⟨p, 0, none⟩ = some (.map (some b)) := (turned_cell (p := ⟨p, 0, none⟩) d3 HP.out).trans hc3
  have hg4 : w.grownBy w4 (some b) := grown_trans (grown_trans HG.out (grown_drewN _ (nq + 1) _)) d3.grown
  clear hvb hv HX HY HM hl3 e1 e2 e5 hl
  go_region_law (refine stepL_delete rfl (.tmp 26) (.tmp 27) 114 118 rfl b _ (by simp [Act.eval]) (by simp [Act.eval]) w4 d1 ?_)
  all_goals
   go_end0
   exact ⟨rfl, ⟨hc4, by rw [HX']; exact d2, HW.out⟩, hg4⟩
 ·have hvb : (v - n == 0) = false := by simpa using hv
  have HY' := HY.out hv
  go_wp2
  go_quiet (fail)
  go_wp2
  go_end0
  exact ⟨rfl, ⟨hc3, (MapL.of_block (w' := w3.drewN _) HM.out rfl).perm (HY'.symm.map entN), HW.out⟩, grown_trans HG.out (grown_drewN _ _ _)⟩
theorem takeL_zero {m : List Ln} {k : Sp} {n : Int} (h : takeE m k n = 0) : takeL m k n = withL m k (atL m k - n) := by unfold takeL; rw [if_pos h]
theorem takeL_err {m : List Ln} {k : Sp} {n : Int} (h : takeE m k n ≠ 0) : takeL m k n = m := by unfold takeL; rw [if_neg h]
abbrev boxPS (w : World) (x : Pl) (c : ByteArray) : World := (w.alloc (.cells #[.string x.1, .int .i64 x.2.1, .int .i64 x.2.2] 28)).alloc (.cells #[.string x.1, .int .i64 x.2.1, .int .i64 x.2.2, .string c] 118)
theorem boxPS_below (w : World) (x : Pl) (c : ByteArray) : Below w.heap.size w (boxPS w x c) := ((Below.refl _ w).alloc (Nat.le_refl _) _).alloc (by simp) _
theorem take_any (x : Pl) (c : ByteArray) (n : Int) (w : World) (s : Nat → Addr) (p b : Nat) (m : List Ln) (h : IsStock w p b m) (hk : KeyOk (x, c)) (hs : Five w s) :
  Calls Tryz.prog 138 #[.pointer (some ⟨p, 0, none⟩), agP x, .string c, .int .i64 n] w fun e w' => e = .returned (errP s (takeE m (x, c) n)) ∧ IsStock w' p b (takeL m (x, c) n) ∧ w.grownBy w' (some b) := by
 have hB := boxPS_below w x c
 have h1 := h.all hB
 have hbx : BoxS (w.heap.size + 1) (x, c) (boxPS w x c) := BoxS.new _ (x, c) _ _ (by simp)
 have hC := checkTake_any (x, c) n _ s p b m h1 hk (hs.below hB)
 have hg1 : w.grownBy (boxPS w x c) (some b) := Below.grownAll hB _
 by_cases h0 : takeE m (x, c) n = 0
 ·obtain ⟨t1, _, t3⟩ := takeE_zero h0
  have hL := fun w1 (hb : Below (boxPS w x c).heap.size (boxPS w x c) w1) => less_any (x, c) n w1 p b m (h1.all hb) hk t1 t3
  rw [h0, errP_zero] at hC
  rw [h0, errP_zero, takeL_zero h0]
  generalize withL m (x, c) (atL m (x, c) - n) = m' at *
  clear hs hk h h1 h0 t1 t3
  obtain ⟨a, r, bb⟩ := x
  unfold agP agS boxPS at *
  simp only at *
  have HC : Hid (Calls Tryz.prog 171 _ _ _) := hC
  have HG : Hid (w.grownBy _ (some b)) := hg1
  clear hC hg1 hB
  go_enter Tryz.func138, Tryz.ntmps138
  go_wp2_with (first
   | (go_at_call 171; refine HC.out.mono ?_; rintro e w1 ⟨rfl, hb⟩; obtain ⟨y0, y1, y2, y3⟩ := hbx.below hb; simp only at y0 y1 y2 y3)
   | (go_at_call 172; refine (hL _ hb).mono ?_; rintro e w2 ⟨rfl, hi, hg⟩))
  go_ret
  exact ⟨rfl, hi, grown_trans (grown_trans HG.out (Below.grownAll hb _)) hg⟩
 ·rw [errP_pos s h0] at hC
  rw [errP_pos s h0, takeL_err h0]
  generalize s (takeE m (x, c) n - 1) = ad at *
  clear hs hk h h0
  obtain ⟨a, r, bb⟩ := x
  unfold agP agS boxPS at *
  simp only at *
  have HC : Hid (Calls Tryz.prog 171 _ _ _) := hC
  have HG : Hid (w.grownBy _ (some b)) := hg1
  have HS : Hid (IsStock _ p b m) := h1
  clear hC hg1 hB h1 hbx
  go_enter Tryz.func138, Tryz.ntmps138
  go_wp2_with (go_at_call 171; refine HC.out.mono ?_; rintro e w1 ⟨rfl, hb⟩)
  go_ret
  exact ⟨rfl, HS.out.all hb, grown_trans HG.out (Below.grownAll hb _)⟩
abbrev boxSS (w : World) (k k' : Sp) : World := (w.alloc (.cells #[.string k.1.1, .int .i64 k.1.2.1, .int .i64 k.1.2.2, .string k.2] 118)).alloc (.cells #[.string k'.1.1, .int .i64 k'.1.2.1, .int .i64 k'.1.2.2, .string k'.2] 118)
theorem linesAfter_any (k k' : Sp) (n : Int) (w : World) (p b : Nat) (m : List Ln) (h : IsStock w p b m) (hk : KeyOk k) (hk' : KeyOk k') :
  Calls Tryz.prog 173 #[.pointer (some ⟨p, 0, none⟩), agS k, agS k', .int .i64 n] w fun e w' => e = .returned (.int .i64 (linesA m k k' n)) ∧ Below w.heap.size w w' := by
 have hB : Below w.heap.size w (boxSS w k k') := ((Below.refl _ w).alloc (Nat.le_refl _) _).alloc (by simp) _
 have h1 := h.all hB
 have hl1 := h1.looks hk
 have hl2 := h1.looks hk'
 have hM := h1.map
 have hNm : (m.map entN).length = m.length := by simp
 have hc := h1.cell
 have hlen := h.wf.len
 have HB : Hid (Below _ _ _) := hB
 have HN : Hid (linesA m k k' n = (m.length : Int) - (if atL m k = n then 1 else 0) + (if atL m k' = 0 then 1 else 0)) := rfl
 clear hB h1 h hk hk'
 generalize m.map entN = Lm at *
 generalize linesA m k k' n = N at *
 generalize atL m k = v at *
 generalize atL m k' = v' at *
 generalize m.length = ln at *
 obtain ⟨⟨a, r, bb⟩, c⟩ := k
 obtain ⟨⟨a', r', bb'⟩, c'⟩ := k'
 unfold agS boxSS at *
 simp only at *
 by_cases h1 : v = n
 ·by_cases h2 : v' = 0
  ·have e1 : (v == n) = true := by simpa using h1
   have e2 : (v' == 0) = true := by simpa using h2
   have HE : Hid (N = (ln : Int) - 1 + 1) := by show _ = _; rw [HN.out, if_pos h1, if_pos h2]
   clear HN h1 h2
   go_enter Tryz.func173, Tryz.ntmps173
   go_wp2_with (at_len; refine wpL_len rfl _ 114 rfl 118 3 Tryz.underlying114 b Lm ln hNm rfl hM ?_)
   clear hM
   go_quiet (fail)
   go_wp2
   go_quiet (fail)
   go_wp2
   go_ret
   exact ⟨by rw [HE.out]; first | rfl | (show Ending.returned (Value.int .i64 _) = Ending.returned (Value.int .i64 _); congr 2; omega), by first | exact below_drewN HB.out _ | exact below_drewN (below_drewN HB.out _) _⟩
  ·have e1 : (v == n) = true := by simpa using h1
   have e2 : (v' == 0) = false := by simpa using h2
   have HE : Hid (N = (ln : Int) - 1 + 0) := by show _ = _; rw [HN.out, if_pos h1, if_neg h2]
   clear HN h1 h2
   go_enter Tryz.func173, Tryz.ntmps173
   go_wp2_with (at_len; refine wpL_len rfl _ 114 rfl 118 3 Tryz.underlying114 b Lm ln hNm rfl hM ?_)
   clear hM
   go_quiet (fail)
   go_wp2
   go_quiet (fail)
   go_wp2
   go_ret
   exact ⟨by rw [HE.out]; first | rfl | (show Ending.returned (Value.int .i64 _) = Ending.returned (Value.int .i64 _); congr 2; omega), by first | exact below_drewN HB.out _ | exact below_drewN (below_drewN HB.out _) _⟩
 ·by_cases h2 : v' = 0
  ·have e1 : (v == n) = false := by simpa using h1
   have e2 : (v' == 0) = true := by simpa using h2
   have HE : Hid (N = (ln : Int) - 0 + 1) := by show _ = _; rw [HN.out, if_neg h1, if_pos h2]
   clear HN h1 h2
   go_enter Tryz.func173, Tryz.ntmps173
   go_wp2_with (at_len; refine wpL_len rfl _ 114 rfl 118 3 Tryz.underlying114 b Lm ln hNm rfl hM ?_)
   clear hM
   go_quiet (fail)
   go_wp2
   go_quiet (fail)
   go_wp2
   go_ret
   exact ⟨by rw [HE.out]; first | rfl | (show Ending.returned (Value.int .i64 _) = Ending.returned (Value.int .i64 _); congr 2; omega), by first | exact below_drewN HB.out _ | exact below_drewN (below_drewN HB.out _) _⟩
  ·have e1 : (v == n) = false := by simpa using h1
   have e2 : (v' == 0) = false := by simpa using h2
   have HE : Hid (N = (ln : Int) - 0 + 0) := by show _ = _; rw [HN.out, if_neg h1, if_neg h2]
   clear HN h1 h2
   go_enter Tryz.func173, Tryz.ntmps173
   go_wp2_with (at_len; refine wpL_len rfl _ 114 rfl 118 3 Tryz.underlying114 b Lm ln hNm rfl hM ?_)
   clear hM
   go_quiet (fail)
   go_wp2
   go_quiet (fail)
   go_wp2
   go_ret
   exact ⟨by rw [HE.out]; first | rfl | (show Ending.returned (Value.int .i64 _) = Ending.returned (Value.int .i64 _); congr 2; omega), by first | exact below_drewN HB.out _ | exact below_drewN (below_drewN HB.out _) _⟩
end Go.Proofs.YteomomeigbfeoaaGreatDoor
namespace Go.Proofs.YteomomeigbfeoaaGreatDoor
open Go.RowKit Go.Lib Go.Sort
def encN (l : Ln) : List Value := [.string l.1.1, .int .i64 l.1.2.1, .int .i64 l.1.2.2, .string l.2.1, .int .i64 l.2.2]
abbrev agN (l : Ln) : Value := .agg #[.string l.1.1, .int .i64 l.1.2.1, .int .i64 l.1.2.2, .string l.2.1, .int .i64 l.2.2]
theorem Tryz.infoLn : (Tryz.prog.info? 70).map (fun i => (i.zero, i.size, i.bytes)) = some (some (.agg #[.string ⟨#[]⟩, .int .i64 0, .int .i64 0, .string ⟨#[]⟩, .int .i64 0]), 5, 56) := by kernel_rfl
theorem encN_len (x : Ln) : (encN x).length = 5 := rfl
theorem encN_one (x : Ln) : ∀ v ∈ encN x, v.oneCell' = true := by
 intro v hv; simp [encN] at hv; rcases hv with rfl | rfl | rfl | rfl | rfl <;> rfl
def flatN (m : List Ln) : List Value := m.flatMap encN
theorem flatN_snoc (m : List Ln) (l : Ln) : flatN (m ++ [l]) = flatN m ++ encN l := by unfold flatN; rw [List.flatMap_append]; simp
theorem flatN_len (m : List Ln) : (flatN m).length = m.length * 5 := by
 unfold flatN
 induction m with
 | nil => rfl
 | cons l m ih => rw [List.flatMap_cons, List.length_append, ih, encN_len, List.length_cons]; omega
theorem flatN_get : ∀ {m : List Ln} {i : Nat} {l : Ln} (c : Nat), m[i]? = some l → c < 5 → (flatN m)[i * 5 + c]? = (encN l)[c]?
 | [], i, l, c, h, hc => by simp at h
 | x :: m, 0, l, c, h, hc => by
  obtain rfl : x = l := by simpa using h
  unfold flatN
  rw [List.flatMap_cons, List.getElem?_append_left (by rw [encN_len]; omega)]
  simp
 | x :: m, i + 1, l, c, h, hc => by
  have h' : m[i]? = some l := by simpa using h
  have ih := flatN_get (m := m) c h' hc
  unfold flatN at *
  rw [List.flatMap_cons, List.getElem?_append_right (by rw [encN_len]; omega), encN_len, ← ih]
  congr 1
  omega
structure LineAt (w : World) (g o : Nat) (l : Ln) : Prop where
 c0 : w.cell? ⟨g, o, none⟩ = some (.string l.1.1)
 c1 : w.cell? ⟨g, o + 1, none⟩ = some (.int .i64 l.1.2.1)
 c2 : w.cell? ⟨g, o + 2, none⟩ = some (.int .i64 l.1.2.2)
 c3 : w.cell? ⟨g, o + 3, none⟩ = some (.string l.2.1)
 c4 : w.cell? ⟨g, o + 4, none⟩ = some (.int .i64 l.2.2)
theorem LineAt.of_block {w w' : World} {g o : Nat} {l : Ln} (h : LineAt w g o l) (hb : w'.heap[g]? = w.heap[g]?) : LineAt w' g o l where
 c0 := (World.cell?_of_block (a := ⟨g, o, none⟩) hb).trans h.c0
 c1 := (World.cell?_of_block (a := ⟨g, o + 1, none⟩) hb).trans h.c1
 c2 := (World.cell?_of_block (a := ⟨g, o + 2, none⟩) hb).trans h.c2
 c3 := (World.cell?_of_block (a := ⟨g, o + 3, none⟩) hb).trans h.c3
 c4 := (World.cell?_of_block (a := ⟨g, o + 4, none⟩) hb).trans h.c4
theorem LineAt.lt {w : World} {g o : Nat} {l : Ln} (h : LineAt w g o l) : g < w.heap.size := cell_lt h.c0
theorem LineAt.below {w w' : World} {g o : Nat} {l : Ln} (h : LineAt w g o l) (hb : Below w.heap.size w w') : LineAt w' g o l := h.of_block (hb.block g h.lt)
theorem LineAt.new (w : World) (l : Ln) (t n : Nat) (hn : n = w.heap.size) : LineAt (w.alloc (.cells #[.string l.1.1, .int .i64 l.1.2.1, .int .i64 l.1.2.2, .string l.2.1, .int .i64 l.2.2] t)) n 0 l where
 c0 := by rw [World.cell?_alloc_at _ _ _ _ hn]; rfl
 c1 := by rw [World.cell?_alloc_at _ _ _ _ hn]; rfl
 c2 := by rw [World.cell?_alloc_at _ _ _ _ hn]; rfl
 c3 := by rw [World.cell?_alloc_at _ _ _ _ hn]; rfl
 c4 := by rw [World.cell?_alloc_at _ _ _ _ hn]; rfl
def RowN (w : World) (g : Nat) (m : List Ln) : Prop := ∀ i l, m[i]? = some l → LineAt w g (i * 5) l
theorem RowN.below {w w' : World} {g : Nat} {m : List Ln} (h : RowN w g m) (hb : Below w.heap.size w w') : RowN w' g m := fun i l hi => (h i l hi).below hb
theorem RowN.of_block {w w' : World} {g : Nat} {m : List Ln} (h : RowN w g m) (hb : w'.heap[g]? = w.heap[g]?) : RowN w' g m := fun i l hi => (h i l hi).of_block hb
theorem RowN.of_cells {w : World} {g : Nat} {m : List Ln} (h : ∀ j v, (flatN m)[j]? = some v → w.cell? ⟨g, j, none⟩ = some v) : RowN w g m := fun i l hi =>
 { c0 := h _ _ (flatN_get 0 hi (by decide)), c1 := h _ _ (flatN_get 1 hi (by decide)), c2 := h _ _ (flatN_get 2 hi (by decide)), c3 := h _ _ (flatN_get 3 hi (by decide)), c4 := h _ _ (flatN_get 4 hi (by decide)) }
theorem own_cells {w : World} {base g cap n : Nat} {m : List Ln} (h : w.ownsRow base 70 5 (.slice (some ⟨g, 0, none⟩) n cap) n (flatN m)) : ∀ j v, (flatN m)[j]? = some v → w.cell? ⟨g, j, none⟩ = some v := by
 intro j v hj
 have := h.cells (g := g) rfl j v hj
 rw [Go.WideShapes.add_plain] at this
 simpa using this
theorem own_rowN {w : World} {base g cap n : Nat} {m : List Ln} (h : w.ownsRow base 70 5 (.slice (some ⟨g, 0, none⟩) n cap) n (flatN m)) : RowN w g m := RowN.of_cells (own_cells h)
theorem flat_array (m : List Ln) : (flatK encN 5 m.toArray).toList = flatN m := by
 apply List.ext_getElem?
 intro j
 by_cases hj : j < m.length * 5
 ·have hi : j / 5 < m.length := by omega
  have h1 : m[j / 5]? = some m[j / 5] := List.getElem?_eq_getElem hi
  have h2 := flatN_get (j % 5) h1 (by omega)
  rw [show j / 5 * 5 + j % 5 = j by omega] at h2
  rw [h2, Array.getElem?_toList, Array.getElem?_eq_getElem (by rw [size_flatK]; simpa using hj)]
  have h3 := get_flatK encN 5 m.toArray j (by simpa using hj)
  rw [getElem!_pos _ j (by rw [size_flatK]; simpa using hj)] at h3
  rw [h3, getElem!_pos m.toArray (j / 5) (by simpa using hi), List.getElem_toArray, getElem!_pos _ (j % 5) (by rw [encN_len]; omega), List.getElem?_eq_getElem (by rw [encN_len]; omega)]
 ·rw [List.getElem?_eq_none (l := flatN m) (by rw [flatN_len]; omega), List.getElem?_eq_none (by rw [Array.length_toList, size_flatK]; simpa using hj)]
theorem own_holdsN {w : World} {base g cap : Nat} {m : List Ln} (h : w.ownsRow base 70 5 (.slice (some ⟨g, 0, none⟩) m.length cap) m.length (flatN m)) : HoldsK encN 5 w g 0 m.toArray := by
 intro j hj
 have hj' : j < m.length * 5 := by rw [size_flatK] at hj; simpa using hj
 refine ⟨?_, ?_⟩
 ·rw [Nat.zero_add]
  refine own_cells h j _ ?_
  rw [← flat_array, Array.getElem?_toList, Array.getElem?_eq_getElem hj, getElem!_pos _ j hj]; rfl
 ·rw [Nat.zero_add]; exact h.frozenAt j
theorem rowN_holds {w : World} {g : Nat} {d : Array Ln} {m : List Ln} (hd : d.toList = m) (h : HoldsK encN 5 w g 0 d) : RowN w g m := by
 subst hd
 refine RowN.of_cells fun j v hj => ?_
 rw [← flat_array, Array.toArray_toList] at hj
 have hlt : j < (flatK encN 5 d).size := by
  have := (List.getElem?_eq_some_iff.1 hj).1
  simpa using this
 have := (h j hlt).1
 rw [Nat.zero_add, getElem!_pos _ j hlt] at this
 rw [this]
 rw [Array.getElem?_toList, Array.getElem?_eq_getElem hlt] at hj
 exact hj
theorem sorted_is {m d : List Ln} {d' : Array Ln} (hw : Sorted m) (hp : d.Perm m) (hq : PermIn 0 d.length d.toArray d') (hs : SortedIn aheadN 0 d.length d') : d'.toList = m := by
 obtain ⟨h1, _, h3⟩ := hq
 have hsz : d'.size = d.length := by simpa using h1
 have e1 : (d'.extract 0 d.length).toList = d'.toList := by
  rw [Array.toList_extract, ← hsz]; simp [List.take_of_length_le]
 have e2 : (d.toArray.extract 0 d.length).toList = d := by simp
 rw [e1, e2] at h3
 have hpm : d'.toList.Perm m := h3.trans hp
 refine sorted_perm_eq ?_ hw hpm
 have hk : (d'.toList.map keyL).Nodup := (hpm.map keyL).nodup_iff.2 hw.keys
 unfold Sorted
 rw [List.pairwise_iff_getElem]
 intro i j hi hj hij
 have hj' : j < d'.size := by simpa using hj
 have hi' : i < d'.size := by simpa using hi
 have := hs i j (Nat.zero_le _) hij (by omega)
 rw [getElem!_pos d' j hj', getElem!_pos d' i hi'] at this
 simp only [Array.getElem_toList]
 refine aheadK_total this ?_
 intro e
 unfold List.Nodup at hk
 rw [List.pairwise_map, List.pairwise_iff_getElem] at hk
 exact hk i j hi hj hij (by simpa using e.symm)
theorem below_sortN {B : Nat} (w : World) (blk off n : Nat) (d : Array Ln) (os : Array Obj) (hB : B ≤ w.heap.size) (hb : B ≤ blk) : Below B w (sortWorldK encN 5 w blk off n d os) := by
 refine ⟨rfl, rfl, rfl, ?_, fun k hk => ?_⟩
 ·unfold sortWorldK; rw [size_grow, size_putRowK]; simp
 ·unfold sortWorldK
  rw [heap_grow_old _ _ (by rw [size_putRowK]; simp; omega)]
  show (w.heap.modify blk _)[k]? = _
  rw [Array.getElem?_modify, if_neg (by omega)]
def Grew (w w' : World) : Prop := ∃ q os, w' = grow (w.drewN q) os
theorem Grew.refl (w : World) : Grew w w := ⟨0, #[], by rw [grow_empty]; rfl⟩
theorem Grew.drew {w w' : World} (h : Grew w w') : Grew w w'.drew := by
 obtain ⟨q, os, rfl⟩ := h
 exact ⟨q + 1, os, rfl⟩
theorem Grew.trans {w w' w'' : World} (h : Grew w w') (k : Grew w' w'') : Grew w w'' := by
 obtain ⟨q, os, rfl⟩ := h
 obtain ⟨q', os', rfl⟩ := k
 refine ⟨q + q', os ++ os', ?_⟩
 rw [← grow_grow]
 simp [grow, World.drewN, Nat.add_assoc]
theorem Grew.alloc {w w' : World} (h : Grew w w') (o : Obj) : Grew w (w'.alloc o) := h.trans ⟨0, #[o], by rw [alloc_eq_grow]; rfl⟩
theorem Grew.below {w w' : World} (h : Grew w w') : Below w.heap.size w w' := by
 obtain ⟨q, os, rfl⟩ := h
 exact below_grow w q os
theorem Grew.keep {w w' : World} (h : Grew w w') {a : Addr} {v : Value} (hc : w.cell? a = some v) : w'.cell? a = some v := by
 rw [h.below.cell (cell_lt hc)]; exact hc
end Go.Proofs.YteomomeigbfeoaaGreatDoor
namespace Go.Proofs.YteomomeigbfeoaaGreatDoor
open Go.Lib Go.Sort
theorem aheadN_parts (x y : Ln) : aheadN x y = if x.1 = y.1 then zLt x.2.1 y.2.1 else aheadP x.1 y.1 := by
 obtain ⟨p, a, n⟩ := x
 obtain ⟨q, b, k⟩ := y
 unfold aheadN cmpN keyL cmpK or2 aheadP
 simp only
 by_cases h : p = q
 ·subst h
  rw [if_pos (cmpP_self p), if_pos rfl]
  rcases cmpZ_cases a b with ⟨h1, h2, h3, h4⟩ | ⟨h1, h2, h3, h4⟩ | ⟨h1, h2, h3, h4⟩ <;> simp [h4, h1]
 ·rw [if_neg (fun e => h (cmpP_zero e)), if_neg h]
def wstep (x : Ln) (s : List Ln × Bool) (l : Ln) : List Ln × Bool :=
 if keyL l = keyL x then s else if s.2 = true then (s.1 ++ [l], true) else if aheadN x l = true then (s.1 ++ [x] ++ [l], true) else (s.1 ++ [l], false)
def wrun (x : Ln) (z : Bool) (m : List Ln) : List Ln × Bool := m.foldl (wstep x) ([], z)
def wend (x : Ln) (s : List Ln × Bool) : List Ln := if s.2 = true then s.1 else s.1 ++ [x]
theorem wrun_nil (x : Ln) (z : Bool) : wrun x z [] = ([], z) := rfl
theorem wrun_snoc (x : Ln) (z : Bool) (m : List Ln) (l : Ln) : wrun x z (m ++ [l]) = wstep x (wrun x z m) l := by unfold wrun; rw [List.foldl_append]; rfl
theorem wstep_same {x : Ln} {s : List Ln × Bool} {l : Ln} (h : keyL l = keyL x) : wstep x s l = s := by unfold wstep; rw [if_pos h]
theorem wstep_done {x : Ln} {s : List Ln × Bool} {l : Ln} (h : keyL l ≠ keyL x) (h1 : s.2 = true) : wstep x s l = (s.1 ++ [l], true) := by unfold wstep; rw [if_neg h, if_pos h1]
theorem wstep_here {x : Ln} {s : List Ln × Bool} {l : Ln} (h : keyL l ≠ keyL x) (h1 : s.2 = false) (h2 : aheadN x l = true) : wstep x s l = (s.1 ++ [x] ++ [l], true) := by unfold wstep; rw [if_neg h, if_neg (by rw [h1]; decide), if_pos h2]
theorem wstep_later {x : Ln} {s : List Ln × Bool} {l : Ln} (h : keyL l ≠ keyL x) (h1 : s.2 = false) (h2 : aheadN x l = false) : wstep x s l = (s.1 ++ [l], false) := by unfold wstep; rw [if_neg h, if_neg (by rw [h1]; decide), if_neg (by rw [h2]; decide)]
theorem wfold_done (x : Ln) : ∀ (m out : List Ln), m.foldl (wstep x) (out, true) = (out ++ without m (keyL x), true)
 | [], out => by simp [without]
 | l :: m, out => by
  rw [List.foldl_cons]
  unfold without
  by_cases h : keyL l = keyL x
  ·rw [wstep_same h, wfold_done x m out, List.filter_cons_of_neg (by simp [h])]; rfl
  ·rw [wstep_done h rfl, wfold_done x m, List.filter_cons_of_pos (by simp [h])]
   simp [without]
theorem wfold_open (x : Ln) : ∀ (m out : List Ln), wend x (m.foldl (wstep x) (out, false)) = out ++ insN x (without m (keyL x))
 | [], out => by simp [without, wend, insN]
 | l :: m, out => by
  rw [List.foldl_cons]
  unfold without
  by_cases h : keyL l = keyL x
  ·rw [wstep_same h, wfold_open x m out, List.filter_cons_of_neg (by simp [h])]; rfl
  ·rw [List.filter_cons_of_pos (by simp [h])]
   unfold insN
   cases ha : aheadN x l with
   | true =>
    rw [wstep_here h rfl ha, wfold_done]
    unfold wend
    simp [without]
   | false =>
    rw [wstep_later h rfl ha, wfold_open x m]
    simp [without]
theorem wend_run (m : List Ln) (k : Sp) (n : Int) : wend (k.1, k.2, n) (wrun (k.1, k.2, n) (decide (n = 0)) m) = withL m k n := by
 unfold wrun withL
 by_cases h : n = 0
 ·rw [decide_eq_true h, wfold_done, if_pos h]
  unfold wend; simp; rfl
 ·rw [decide_eq_false h, wfold_open, if_neg h]
  simp; rfl
theorem wstep_len (x : Ln) (s : List Ln × Bool) (l : Ln) : (wstep x s l).1.length + (if s.2 = true then 1 else 0) ≤ s.1.length + 1 + (if (wstep x s l).2 = true then 1 else 0) := by
 unfold wstep
 by_cases h : keyL l = keyL x
 ·rw [if_pos h]; omega
 ·rw [if_neg h]
  by_cases h1 : s.2 = true
  ·rw [if_pos h1, if_pos h1]; simp
  ·rw [if_neg h1, if_neg h1]
   by_cases h2 : aheadN x l = true
   ·rw [if_pos h2]; simp
   ·rw [if_neg h2]; simp
theorem wrun_len (x : Ln) (z : Bool) (m : List Ln) : (wrun x z m).1.length + (if z = true then 1 else 0) ≤ m.length + (if (wrun x z m).2 = true then 1 else 0) := by
 have key : ∀ (m : List Ln) (s : List Ln × Bool), (m.foldl (wstep x) s).1.length + (if s.2 = true then 1 else 0) ≤ s.1.length + m.length + (if (m.foldl (wstep x) s).2 = true then 1 else 0) := by
  intro m
  induction m with
  | nil => intro s; rw [List.foldl_nil, List.length_nil]; omega
  | cons l m ih =>
   intro s
   rw [List.foldl_cons]
   have h1 := ih (wstep x s l)
   have h2 := wstep_len x s l
   simp only [List.length_cons]
   omega
 have := key m ([], z)
 unfold wrun
 simp only [List.length_nil] at this
 omega
theorem wrun_short (x : Ln) (z : Bool) (m : List Ln) : (wrun x z m).1.length ≤ m.length + 1 := by
 have := wrun_len x z m
 split at this <;> split at this <;> omega
theorem find_at {m : List Ln} (hs : Sorted m) {i : Nat} {l : Ln} (h : m[i]? = some l) : atL m (keyL l) = l.2.2 := atL_mem hs.keys (List.mem_of_getElem? h)
theorem atL_pos_of {m : List Ln} (h : Wf m) {i : Nat} {l : Ln} (hi : m[i]? = some l) : 1 ≤ atL m (keyL l) := by
 rw [find_at h.sorted hi]; exact h.pos l (List.mem_of_getElem? hi)
theorem ofL_take_succ {m : List Ln} {i : Nat} {l : Ln} (h : m[i]? = some l) (c : ByteArray) : ofL (m.take (i + 1)) c = ofL (m.take i) c + (if l.2.1 = c then l.2.2 else 0) := by
 obtain ⟨hi, e⟩ := List.getElem?_eq_some_iff.1 h
 rw [List.take_succ_eq_append_getElem hi, ofL_append, ofL_cons, ofL_nil, e]; omega
theorem ofL_take_bound {m : List Ln} (h : Wf m) (i : Nat) (c : ByteArray) : 0 ≤ ofL (m.take i) c ∧ ofL (m.take i) c ≤ 1099511627776 := by
 have h1 := ofL_nonneg (m := m.take i) (fun l hl => h.pos l (List.mem_of_mem_take hl)) c
 have h2 := ofL_nonneg (m := m.drop i) (fun l hl => h.pos l (List.mem_of_mem_drop hl)) c
 have h3 := ofL_append (m.take i) (m.drop i) c
 rw [List.take_append_drop] at h3
 have := h.most c
 omega
theorem dec_len13 {u : Nat} (h : u < 10 ^ 13) : (decDigits u).length ≤ 13 := by simpa using dec_short u h
theorem pbytes_len {x : Pl} (h : okP x = true) : (pbytes x).length ≤ 36 := by
 obtain ⟨hn, a1, a2, a3, a4⟩ := okP_bounds h
 have h1 := dec_len13 (u := x.2.1.toNat) (by omega)
 have h2 := dec_len13 (u := x.2.2.toNat) (by omega)
 have h3 := name_short hn
 rw [← size_len] at h3
 rw [pbytes_ok h]
 simp only [List.length_append, List.length_cons]
 omega
theorem lineB_len {l : Ln} (h : okN l) : (lineB l).length ≤ 59 := by
 obtain ⟨h1, h2, h3, h4⟩ := h
 have p := pbytes_len h1
 have q := name_short h2
 rw [← size_len] at q
 have r := dec_len13 (u := l.2.2.toNat) (by omega)
 unfold lineB
 simp only [List.length_append, List.length_cons]
 omega
theorem textB_len : ∀ {m : List Ln}, (∀ l ∈ m, okN l) → (textB m).length ≤ 60 * m.length
 | [], _ => by simp [textB]
 | l :: m, h => by
  have h1 := lineB_len (h l (by simp))
  have h2 := textB_len (m := m) fun x hx => h x (by simp [hx])
  have : textB (l :: m) = (lineB l ++ [10]) ++ textB m := by unfold textB; simp
  rw [this]
  simp only [List.length_append, List.length_cons, List.length_nil]
  omega
theorem Wf.okN {m : List Ln} (h : Wf m) : ∀ l ∈ m, okN l := fun l hl => ⟨(h.ok l hl).1, (h.ok l hl).2.1, (h.ok l hl).2.2, h.qty hl⟩
theorem Wf.text_len {m : List Ln} (h : Wf m) : (textB m).length ≤ 12000 := by
 have h1 := textB_len h.okN
 have h2 := h.len
 omega
theorem textB_take_succ {m : List Ln} {i : Nat} {l : Ln} (h : m[i]? = some l) : textB (m.take (i + 1)) = textB (m.take i) ++ (lineB l ++ [10]) := by
 obtain ⟨hi, e⟩ := List.getElem?_eq_some_iff.1 h
 rw [List.take_succ_eq_append_getElem hi, textB_append, textB_one, e]
theorem textB_take_len {m : List Ln} (h : Wf m) (i : Nat) : (textB (m.take i)).length ≤ 12000 := by
 have h1 := textB_len (m := m.take i) fun l hl => h.okN l (List.mem_of_mem_take hl)
 have h2 := h.len
 have h3 := List.length_take_le i m
 have h4 : (m.take i).length ≤ m.length := by simp; omega
 omega
end Go.Proofs.YteomomeigbfeoaaGreatDoor
namespace Go.Proofs.YteomomeigbfeoaaGreatDoor
open Go.RowKit Go.Lib Go.Sort
theorem splitK3_one (c : UInt8) (k : Nat) (l : List UInt8) : Lib.splitK [c] 0 (k + 1) l = if has c l then pre c l :: Lib.splitK [c] 0 k (post c l) else [l] := by
 rw [Lib.splitK, Lib.index_one, indexByte_eq]
 cases h : has c l with
 | false => simp
 | true =>
  have hne : ¬ (((pre c l).length : Int) == -1) = true := by simp
  simp only [if_true]
  rw [if_neg hne]
  simp only [Int.toNat_natCast, Nat.add_zero, List.length_singleton]
  rw [take_pre, drop_pre]
theorem splitK3_few (l : List UInt8) (k : Nat) (hk : k ≤ 2) (h : wordsK l = false) : (Lib.splitK [32] 0 k l).length < 3 := by
 have key : ∀ k l, (Lib.splitK [32] 0 k l).length ≤ k + 1 := by
  intro k
  induction k with
  | zero => intro l; simp [Lib.splitK]
  | succ k ih =>
   intro l
   rw [splitK3_one]
   split
   ·have := ih (post 32 l); simp; omega
   ·simp
 rcases Nat.lt_or_ge k 2 with hk' | hk'
 ·have := key k l; omega
 ·obtain rfl : k = 2 := by omega
  unfold wordsK at h
  rw [splitK3_one]
  cases h1 : has 32 l with
  | false => simp
  | true =>
   rw [h1, Bool.true_and, cutB_yes h1] at h
   simp only [if_true]
   rw [splitK3_one, h]; simp
theorem splitK_three (l : List UInt8) (h : wordsK l = true) : Lib.splitK [32] 0 2 l = [cutA 32 l, cutA 32 (cutB 32 l), cutB 32 (cutB 32 l)] := by
 unfold wordsK at h
 simp only [Bool.and_eq_true] at h
 obtain ⟨h1, h2⟩ := h
 rw [splitK3_one, if_pos h1, ← cutB_yes h1, splitK3_one, if_pos h2, ← cutB_yes h2, cutA_yes h1, cutA_yes h2]
 rfl
theorem words_long (l : List UInt8) (h : wordsK l = true) : 2 ≤ l.length := by
 have key : ∀ l, has 32 l = true → (cutB 32 l).length + 1 ≤ l.length := fun l h => by
  rw [cutB_yes h, ← drop_pre, List.length_drop]
  have := pre_length_lt 32 l h
  omega
 unfold wordsK at h
 simp only [Bool.and_eq_true] at h
 obtain ⟨h1, h2⟩ := h
 have a := key _ h1
 have b := key _ h2
 omega
theorem Tryz.infoStr3 : (Tryz.prog.info? 9).map (fun i => (i.zero, i.size, i.bytes)) = some (some (.string ByteArray.empty), 1, 16) := by kernel_rfl
theorem splitN3_any (s : ByteArray) (w : World) (hz : s.size < 4294967281) :
  Calls Tryz.prog 111 #[.string s, .string ⟨#[32]⟩, .int .i64 3] w fun e w' =>
   e = .returned (.slice (some ⟨w.heap.size, 0, none⟩) (Lib.splitB ⟨#[32]⟩ 0 (min 3 (s.size + 1) - 1) s).length (min 3 (s.size + 1) : Nat)) ∧ w' = w.alloc (.cells (Lib.cellsOf (Lib.splitB ⟨#[32]⟩ 0 (min 3 (s.size + 1) - 1) s) (min 3 (s.size + 1))) 9) := by
 have c : Calls Tryz.prog 163 #[.string s, .string ⟨#[32]⟩, .int .i64 0, .int .i64 3] w _ := Any.strings_genSplit_core Tryz.laysSp Tryz.infoStr3 s ⟨#[32]⟩ 0 3 (min 3 (s.size + 1)) w hz (by decide) (Nat.zero_le _)
  (fun x c _ => (by
   refine (Tryz.strings_Index_one x 32 _).mono fun e w' ⟨he, hw⟩ => ⟨?_, hw⟩
   rw [he, ← Lib.index_one]))
  ((by
   refine (Tryz.strings_Count_one s 32 w).mono fun e w' ⟨he, hw⟩ => ⟨?_, hw⟩
   rw [he]
   show _ = Ending.returned (Value.int .i64 ((Lib.count s.data.toList [32] : Nat) : Int))
   rw [Lib.count_one]; rfl))
  (by decide) (by decide) (by rw [if_neg (by decide)]; omega)
 generalize (Lib.splitB ⟨#[32]⟩ 0 (min 3 (s.size + 1) - 1) s) = L at *
 generalize min 3 (s.size + 1) = M at *
 have H : Hid (Calls Tryz.prog 163 _ _ _) := c
 clear c
 go_enter Tryz.func111, Tryz.ntmps111
 go_wp2_with (go_at_call 163; refine H.out.mono ?_; rintro e w1 ⟨rfl, rfl⟩)
 go_ret
 exact ⟨rfl, rfl⟩
theorem splitN3_few (s : ByteArray) (w : World) (hz : s.size < 4294967281) (h : wordsK s.data.toList = false) :
  Calls Tryz.prog 111 #[.string s, .string ⟨#[32]⟩, .int .i64 3] w fun e w' => ∃ n m o, n < 3 ∧ e = .returned (.slice (some ⟨w.heap.size, 0, none⟩) n m) ∧ w' = w.alloc o := by
 refine (splitN3_any s w hz).mono fun e w' ⟨he, hw⟩ => ⟨_, _, _, ?_, he, hw⟩
 have e1 : (Lib.splitB ⟨#[32]⟩ 0 (min 3 (s.size + 1) - 1) s).length = ((Lib.splitB ⟨#[32]⟩ 0 (min 3 (s.size + 1) - 1) s).map (·.data.toList)).length := by simp
 rw [e1, Lib.splitB_data]
 exact splitK3_few _ _ (by omega) h
theorem three_of_data {L : List ByteArray} {a b c : List UInt8} (h : L.map (·.data.toList) = [a, b, c]) : L = [⟨a.toArray⟩, ⟨b.toArray⟩, ⟨c.toArray⟩] := by
 match L, h with
 | [x, y, z], h =>
  simp only [List.map_cons, List.map_nil, List.cons.injEq, and_true] at h
  obtain ⟨rfl, rfl, rfl⟩ := h
  cases x; cases y; cases z; simp
theorem splitN3_three (s : ByteArray) (w : World) (hz : s.size < 4294967281) (h : wordsK s.data.toList = true) :
  Calls Tryz.prog 111 #[.string s, .string ⟨#[32]⟩, .int .i64 3] w fun e w' => e = .returned (.slice (some ⟨w.heap.size, 0, none⟩) 3 3) ∧
   w' = w.alloc (.cells #[.string ⟨(cutA 32 s.data.toList).toArray⟩, .string ⟨(cutA 32 (cutB 32 s.data.toList)).toArray⟩, .string ⟨(cutB 32 (cutB 32 s.data.toList)).toArray⟩] 9) := by
 have h3 := words_long _ h
 rw [size_len] at h3
 have e0 : min 3 (s.size + 1) = 3 := by omega
 have eL : Lib.splitB ⟨#[32]⟩ 0 (min 3 (s.size + 1) - 1) s = _ := three_of_data ((Lib.splitB_data _ _ _ _).trans ((by rw [e0] : _ = Lib.splitK [32] 0 2 s.data.toList).trans (splitK_three _ h)))
 have hc := splitN3_any s w hz
 rw [eL, e0] at hc
 exact hc
end Go.Proofs.YteomomeigbfeoaaGreatDoor
