/-
 Plain mathematics of a stable sort in place: parts that are turned about, a merge by turning; no program is named here.
-/
import Derived.Sort.LotA
import Derived.Test.YtefkchmahcjleaaGreatDoorProg
import Derived.Shelf.SlSortCmp.KitK
import Derived.Sort.WalkB2
import Derived.Sort.WalkB12
import Derived.Deep.LoopGhost
set_option maxRecDepth 100000
set_option maxHeartbeats 16000000
namespace Go.Proofs.YtefkchmahcjleaaGreatDoor
open Go.Sort
variable {α : Type} [Inhabited α] {lt : α → α → Bool}
def Rot (d d' : Array α) (lo m hi : Nat) : Prop :=
 ∀ x, d'[x]! = if x < lo ∨ hi ≤ x then d[x]! else if x < lo + (hi - m) then d[x + (m - lo)]! else d[x - (hi - m)]!
def Exch (d d' : Array α) (a b n : Nat) : Prop :=
 ∀ x, d'[x]! = if a ≤ x ∧ x < a + n then d[x + (b - a)]! else if b ≤ x ∧ x < b + n then d[x - (b - a)]! else d[x]!
theorem Exch.zero (d : Array α) (a b : Nat) : Exch d d a b 0 := fun x => by
 rw [if_neg (by omega), if_neg (by omega)]
theorem Exch.succ {d dk : Array α} {a b k : Nat} (h : Exch d dk a b k) (hab : a + k < b) (hb : b + k < dk.size) : Exch d (swp dk (a + k) (b + k)) a b (k + 1) := fun x => by
 have vA : dk[a + k]! = d[a + k]! := by rw [h (a + k), if_neg (by omega), if_neg (by omega)]
 have vB : dk[b + k]! = d[b + k]! := by rw [h (b + k), if_neg (by omega), if_neg (by omega)]
 rw [swp_get dk (show a + k < dk.size by omega) hb, vA, vB]
 by_cases h1 : x = b + k
 ·rw [if_pos h1, if_neg (by omega), if_pos (by omega)]
  congr 1; omega
 ·rw [if_neg h1]
  by_cases h2 : x = a + k
  ·rw [if_pos h2, if_pos (by omega)]
   congr 1; omega
  ·rw [if_neg h2, h x]
   by_cases h3 : a ≤ x ∧ x < a + k
   ·rw [if_pos h3, if_pos (by omega)]
   ·rw [if_neg h3, if_neg (by omega : ¬ (a ≤ x ∧ x < a + (k + 1)))]
    by_cases h4 : b ≤ x ∧ x < b + k
    ·rw [if_pos h4, if_pos (by omega)]
    ·rw [if_neg h4, if_neg (by omega)]
theorem Rot.even {d d' : Array α} {m i : Nat} (hi : i ≤ m) (h : Exch d d' (m - i) m i) : Rot d d' (m - i) m (m + i) := fun x => by
 rw [h x]
 by_cases h1 : x < m - i ∨ m + i ≤ x
 ·rw [if_neg (by omega), if_neg (by omega), if_pos h1]
 ·rw [if_neg h1]
  by_cases h2 : x < m - i + (m + i - m)
  ·rw [if_pos (by omega), if_pos h2]
  ·rw [if_neg (by omega), if_pos (by omega), if_neg h2]
   congr 1; omega
theorem Rot.left {d dk d' : Array α} {m i j : Nat} (hi : i ≤ m) (hj : 0 < j) (hji : j < i) (h : Exch d dk (m - i) m j) (hr : Rot dk d' (m - (i - j)) m (m + j)) : Rot d d' (m - i) m (m + j) := fun x => by
 rw [hr x]
 by_cases h1 : x < m - i ∨ m + j ≤ x
 ·rw [if_pos (by omega), if_pos h1, h x, if_neg (by omega), if_neg (by omega)]
 ·rw [if_neg h1]
  by_cases h2 : x < m - i + j
  ·rw [if_pos (by omega), if_pos (by omega), h x, if_pos (by omega)]
  ·rw [if_neg (by omega), if_neg (by omega : ¬ x < m - i + (m + j - m))]
   by_cases h3 : x < m - (i - j) + j
   ·rw [if_pos (by omega), h, if_neg (by omega), if_pos (by omega)]
    congr 1; omega
   ·rw [if_neg (by omega), h, if_neg (by omega), if_neg (by omega)]
theorem Rot.right {d dk d' : Array α} {m i j : Nat} (hi : i ≤ m) (h0 : 0 < i) (hij : i < j) (h : Exch d dk (m - i) (m + j - i) i) (hr : Rot dk d' (m - i) m (m + (j - i))) : Rot d d' (m - i) m (m + j) := fun x => by
 rw [hr x]
 by_cases h1 : x < m - i ∨ m + j ≤ x
 ·rw [if_pos (by omega), if_pos h1, h x, if_neg (by omega), if_neg (by omega)]
 ·rw [if_neg h1]
  by_cases h2 : m + (j - i) ≤ x
  ·rw [if_pos (by omega), if_neg (by omega), h x, if_neg (by omega), if_pos (by omega)]
   congr 1; omega
  ·rw [if_neg (by omega)]
   by_cases h3 : x < m - i + (j - i)
   ·rw [if_pos (by omega), if_pos (by omega), h]
    rw [if_neg (by omega), if_neg (by omega)]
   ·rw [if_neg (by omega), if_pos (by omega), h, if_pos (by omega)]
    congr 1; omega
theorem Rot.up0 (d : Array α) (a : Nat) : Rot d d a (a + 1) (a + 1) := fun x => by
 by_cases h1 : x < a ∨ a + 1 ≤ x
 ·rw [if_pos h1]
 ·rw [if_neg h1, if_neg (by omega)]; congr 1; omega
theorem Rot.up {d dk : Array α} {a k : Nat} (h : Rot d dk a (a + 1) (k + 1)) (hk : a ≤ k) (hs : k + 1 < dk.size) : Rot d (swp dk k (k + 1)) a (a + 1) (k + 2) := fun x => by
 rw [swp_get dk (show k < dk.size by omega) hs, h k, h (k + 1), h x]
 by_cases h1 : x = k + 1
 ·subst h1
  rw [if_pos rfl, if_neg (by omega), if_neg (by omega), if_neg (by omega), if_neg (by omega)]
  congr 1; omega
 ·rw [if_neg h1]
  by_cases h2 : x = k
  ·subst h2
   rw [if_pos rfl, if_pos (by omega), if_neg (by omega), if_pos (by omega)]
   congr 1; omega
  ·rw [if_neg h2]
   by_cases h3 : x < a ∨ k + 1 ≤ x
   ·rw [if_pos h3, if_pos (by omega)]
   ·rw [if_neg h3, if_pos (by omega), if_neg (by omega), if_pos (by omega)]
theorem Rot.down0 (d : Array α) (m : Nat) : Rot d d m m (m + 1) := fun x => by
 by_cases h1 : x < m ∨ m + 1 ≤ x
 ·rw [if_pos h1]
 ·rw [if_neg h1, if_pos (by omega)]; congr 1; omega
theorem Rot.down {d dk : Array α} {m k : Nat} (h : Rot d dk (k + 1) m (m + 1)) (hk : k + 1 ≤ m) (hs : k + 1 < dk.size) : Rot d (swp dk (k + 1) k) k m (m + 1) := fun x => by
 rw [swp_get dk hs (show k < dk.size by omega), h k, h (k + 1), h x]
 by_cases h1 : x = k
 ·subst h1
  rw [if_pos rfl, if_neg (by omega), if_pos (by omega), if_neg (by omega), if_pos (by omega)]
  congr 1; omega
 ·rw [if_neg h1]
  by_cases h2 : x = k + 1
  ·subst h2
   rw [if_pos rfl, if_pos (by omega), if_neg (by omega), if_neg (by omega)]
   congr 1; omega
  ·rw [if_neg h2]
   by_cases h3 : x < k + 1 ∨ m + 1 ≤ x
   ·rw [if_pos h3, if_pos (by omega)]
   ·rw [if_neg h3, if_neg (by omega), if_neg (by omega), if_neg (by omega)]
theorem Rot.same_left {d d' : Array α} {m hi : Nat} (h : Rot d d' m m hi) : ∀ x : Nat, d'[x]! = d[x]! := fun x => by
 rw [h x]
 split
 ·rfl
 ·rw [if_pos (by omega)]; congr 1; omega
theorem Rot.same_right {d d' : Array α} {lo m : Nat} (h : Rot d d' lo m m) : ∀ x : Nat, d'[x]! = d[x]! := fun x => by
 rw [h x]
 split
 ·rfl
 ·rw [if_neg (by omega)]; congr 1; omega
theorem ext_all {d d' : Array α} (hs : d'.size = d.size) (h : ∀ x : Nat, d'[x]! = d[x]!) : d' = d := by
 apply Array.ext hs
 intro i h1 h2
 have := h i
 rwa [getElem!_pos d' i h1, getElem!_pos d i h2] at this
theorem SortedIn.rot_lo {d : Array α} {a b a' b' : Nat} (h : SortedIn lt a b d) (h1 : a ≤ a') (h2 : b' ≤ b) : SortedIn lt a' b' d := fun i j p q r => h i j (by omega) q (by omega)
theorem Rot.lo_at {d d' : Array α} {lo m hi : Nat} (h : Rot d d' lo m hi) {x : Nat} (h1 : lo ≤ x) (h2 : x < lo + (hi - m)) (h3 : x < hi) : d'[x]! = d[x + (m - lo)]! := by
 rw [h x, if_neg (by omega), if_pos h2]
theorem Rot.hi_at {d d' : Array α} {lo m hi : Nat} (h : Rot d d' lo m hi) {x : Nat} (h1 : lo ≤ x) (h2 : lo + (hi - m) ≤ x) (h3 : x < hi) : d'[x]! = d[x - (hi - m)]! := by
 rw [h x, if_neg (by omega), if_neg (by omega)]
theorem Rot.out_at {d d' : Array α} {lo m hi : Nat} (h : Rot d d' lo m hi) {x : Nat} (h1 : x < lo ∨ hi ≤ x) : d'[x]! = d[x]! := by
 rw [h x, if_pos h1]
theorem Rot.refl_left (d : Array α) (m hi : Nat) : Rot d d m m hi := fun x => by
 split
 ·rfl
 ·rw [if_pos (by omega)]; congr 1; omega
theorem Rot.refl_right (d : Array α) (lo m : Nat) : Rot d d lo m m := fun x => by
 split
 ·rfl
 ·rw [if_neg (by omega)]; congr 1; omega
def Merged (lt : α → α → Bool) (a m b : Nat) (d d' : Array α) : Prop :=
 PermIn a b d d' ∧ (SortedIn lt a m d → SortedIn lt m b d → SortedIn lt a b d') ∧ (SortedIn lt a b d → d' = d)
theorem Merged.none (lt : α → α → Bool) {a m b : Nat} (d : Array α) (h : m ≤ a ∨ b ≤ m) (h1 : a ≤ m) (h2 : m ≤ b) : Merged lt a m b d d := by
 refine ⟨permIn_refl d a b, fun s1 s2 => ?_, fun _ => rfl⟩
 rcases h with h | h
 ·obtain rfl : m = a := by omega
  exact s2
 ·obtain rfl : m = b := by omega
  exact s1
theorem merged_one_left (hS : SWO lt) {a b i : Nat} {d d' : Array α} (hab : a + 1 ≤ i) (hib : i ≤ b) (hp : PermIn a b d d') (hr : Rot d d' a (a + 1) i) (h1 : a + 1 < i → lt d[i - 1]! d[a]! = true) (h2 : i < b → lt d[i]! d[a]! = false) : Merged lt a (a + 1) b d d' := by
 refine ⟨hp, fun _ hs => ?_, fun hs => ?_⟩
 ·have g : ∀ x, a + 1 ≤ x → x < i → lt d[x]! d[a]! = true := by
   intro x hx hxi
   have h1' := h1 (by omega)
   cases hc : lt d[x]! d[a]! with
   | true => rfl
   | false =>
    have hle : lt d[i - 1]! d[x]! = false := by
     by_cases e : x = i - 1
     ·rw [e]; exact hS.irrefl _
     ·exact hs x (i - 1) hx (by omega) (by omega)
    rw [hS.ntrans _ _ _ hle hc] at h1'; cases h1'
  have g2 : ∀ x, i ≤ x → x < b → lt d[x]! d[a]! = false := by
   intro x hx hxb
   by_cases e : x = i
   ·rw [e]; exact h2 (by omega)
   ·exact hS.ntrans _ _ _ (hs i x (by omega) (by omega) hxb) (h2 (by omega))
  have v1 : ∀ x, a ≤ x → x < i - 1 → d'[x]! = d[x + 1]! := fun x k1 k2 => by
   rw [hr.lo_at k1 (by omega) (by omega)]; congr 1; omega
  have v2 : d'[i - 1]! = d[a]! := by
   rw [hr.hi_at (by omega) (by omega) (by omega)]; congr 1; omega
  have v3 : ∀ x, i ≤ x → d'[x]! = d[x]! := fun x k1 => hr.out_at (Or.inr k1)
  intro p q hap hpq hqb
  by_cases c1 : q < i - 1
  ·rw [v1 p hap (by omega), v1 q (by omega) c1]
   exact hs _ _ (by omega) (by omega) (by omega)
  ·by_cases c2 : q = i - 1
   ·rw [c2, v2, v1 p hap (by omega)]
    exact hS.asymmA (g (p + 1) (by omega) (by omega))
   ·rw [v3 q (by omega)]
    by_cases c3 : p < i - 1
    ·rw [v1 p hap c3]
     exact hs _ _ (by omega) (by omega) (by omega)
    ·by_cases c4 : p = i - 1
     ·rw [c4, v2]; exact g2 q (by omega) hqb
     ·rw [v3 p (by omega)]; exact hs _ _ (by omega) hpq hqb
 ·have e : i = a + 1 := by
   rcases Nat.lt_or_ge (a + 1) i with h | h
   ·have := hs a (i - 1) (Nat.le_refl _) (by omega) (by omega)
    rw [h1 h] at this; cases this
   ·omega
  subst e
  exact ext_all hp.1 hr.same_right
theorem merged_one_right (hS : SWO lt) {a m i : Nat} {d d' : Array α} (hai : a ≤ i) (him : i ≤ m) (hp : PermIn a (m + 1) d d') (hr : Rot d d' i m (m + 1)) (h1 : a < i → lt d[m]! d[i - 1]! = false) (h2 : i < m → lt d[m]! d[i]! = true) : Merged lt a m (m + 1) d d' := by
 refine ⟨hp, fun hs _ => ?_, fun hs => ?_⟩
 ·have v1 : ∀ x, x < i → d'[x]! = d[x]! := fun x k => hr.out_at (Or.inl k)
  have v2 : d'[i]! = d[m]! := by
   rw [hr.lo_at (Nat.le_refl _) (by omega) (by omega)]; congr 1; omega
  have v3 : ∀ x, i < x → x ≤ m → d'[x]! = d[x - 1]! := fun x k1 k2 => by
   rw [hr.hi_at (by omega) (by omega) (by omega)]; congr 1; omega
  have g1 : ∀ x, a ≤ x → x < i → lt d[m]! d[x]! = false := by
   intro x hx hxi
   by_cases e : x = i - 1
   ·rw [e]; exact h1 (by omega)
   ·exact hS.ntrans _ _ _ (h1 (by omega)) (hs x (i - 1) hx (by omega) (by omega))
  have g2 : ∀ x, i ≤ x → x < m → lt d[x]! d[m]! = false := by
   intro x hx hxm
   cases hc : lt d[x]! d[m]! with
   | false => rfl
   | true =>
    have ht := hS.trans _ _ _ hc (h2 (by omega))
    by_cases e : x = i
    ·rw [e, hS.irrefl] at ht; cases ht
    ·rw [hs i x hai (by omega) hxm] at ht; cases ht
  intro p q hap hpq hqb
  by_cases c1 : q < i
  ·rw [v1 p (by omega), v1 q c1]; exact hs _ _ hap hpq (by omega)
  ·by_cases c2 : q = i
   ·rw [c2, v2, v1 p (by omega)]; exact g1 p hap (by omega)
   ·rw [v3 q (by omega) (by omega)]
    by_cases c3 : p < i
    ·rw [v1 p c3]; exact hs _ _ hap (by omega) (by omega)
    ·by_cases c4 : p = i
     ·rw [c4, v2]; exact g2 _ (by omega) (by omega)
     ·rw [v3 p (by omega) (by omega)]; exact hs _ _ (by omega) (by omega) (by omega)
 ·have e : i = m := by
   rcases Nat.lt_or_ge i m with h | h
   ·have := hs i m hai h (by omega)
    rw [h2 h] at this; cases this
   ·omega
  subst e
  exact ext_all hp.1 hr.same_left
theorem SortedIn.congr_in {a b : Nat} {d d' : Array α} (h : SortedIn lt a b d) (he : ∀ x, a ≤ x → x < b → d'[x]! = d[x]!) : SortedIn lt a b d' := fun p q h1 h2 h3 => by
 rw [he p h1 (by omega), he q (by omega) h3]; exact h p q h1 h2 h3
theorem merged_mid (hS : SWO lt) {a m b mid lo hi start : Nat} {d d1 d2 d3 : Array α} (hb : b ≤ d.size) (ham : a < m) (hmb : m < b) (hmid : mid = (a + b) / 2)
  (hc : (mid < m ∧ lo = mid + m - b ∧ hi = mid) ∨ (m ≤ mid ∧ lo = a ∧ hi = m)) (hl : lo ≤ start) (hh : start ≤ hi)
  (h1 : lo < start → lt d[mid + m - start]! d[start - 1]! = false) (h2 : start < hi → lt d[mid + m - 1 - start]! d[start]! = true)
  (hp : PermIn start (mid + m - start) d d1) (hr : Rot d d1 start m (mid + m - start)) (m1 : Merged lt a start mid d1 d2) (m2 : Merged lt mid (mid + m - start) b d2 d3) : Merged lt a m b d d3 := by
 generalize he : mid + m - start = en at *
 have f1 : a ≤ start ∧ start ≤ mid ∧ start ≤ m ∧ m ≤ en ∧ mid ≤ en ∧ en ≤ b ∧ start + (en - m) = mid ∧ a ≤ mid ∧ mid ≤ b := by omega
 obtain ⟨f1, f2, f3, f4, f5, f6, f7, f8, f9⟩ := f1
 have s1 : d1.size = d.size := hp.1
 have s2 : d2.size = d.size := by rw [m1.1.1, s1]
 refine ⟨?_, fun ha hb' => ?_, fun hs => ?_⟩
 ·exact permIn_trans _ _ _ a b (permIn_mono _ _ start en a b f1 f6 hb hp) (permIn_trans _ _ _ a b (permIn_mono _ _ a mid a b (Nat.le_refl _) f9 (by omega) m1.1) (permIn_mono _ _ mid b a b f8 (Nat.le_refl _) (by omega) m2.1))
 ·have v1 : ∀ x, x < start → d1[x]! = d[x]! := fun x k => hr.out_at (Or.inl k)
  have v2 : ∀ x, start ≤ x → x < mid → d1[x]! = d[x + (m - start)]! := fun x k1 k2 => hr.lo_at k1 (by omega) (by omega)
  have v3 : ∀ x, mid ≤ x → x < en → d1[x]! = d[x - (en - m)]! := fun x k1 k2 => hr.hi_at (by omega) (by omega) k2
  have v4 : ∀ x, en ≤ x → d1[x]! = d[x]! := fun x k => hr.out_at (Or.inr k)
  have o1 : ∀ x, mid ≤ x → d2[x]! = d1[x]! := fun x k => m1.1.2.1 x (Or.inr k)
  have o2 : ∀ x, x < mid → d3[x]! = d2[x]! := fun x k => m2.1.2.1 x (Or.inl k)
  have t1 : SortedIn lt a mid d2 := m1.2.1 (SortedIn.congr_in (SortedIn.rot_lo ha (Nat.le_refl _) f3) fun x _ k => v1 x k) (fun p q k1 k2 k3 => by
   rw [v2 p k1 (by omega), v2 q (by omega) k3]; exact hb' _ _ (by omega) (by omega) (by omega))
  have t2 : SortedIn lt mid b d3 := m2.2.1 (fun p q k1 k2 k3 => by
   rw [o1 p k1, o1 q (by omega), v3 p k1 (by omega), v3 q (by omega) k3]; exact ha _ _ (by omega) (by omega) (by omega)) (fun p q k1 k2 k3 => by
   rw [o1 p (by omega), o1 q (by omega), v4 p k1, v4 q (by omega)]; exact hb' _ _ (by omega) k2 k3)
  have hle : ∀ x y z, lt x y = false → lt y z = false → lt x z = false := hS.ntrans
  have cross1 : ∀ p q, a ≤ p → p < mid → mid ≤ q → q < b → lt d1[q]! d1[p]! = false := by
   intro p q k1 k2 k3 k4
   by_cases c1 : p < start
   ·rw [v1 p c1]
    by_cases c2 : q < en
    ·rw [v3 q k3 c2]; exact ha _ _ k1 (by omega) (by omega)
    ·rw [v4 q (by omega)]
     have hx : lt d[en]! d[start - 1]! = false := h1 (by omega)
     have hA : lt d[q]! d[en]! = false := by
      by_cases e : q = en
      ·rw [e]; exact hS.irrefl _
      ·exact hb' en q f4 (by omega) k4
     have hB : lt d[start - 1]! d[p]! = false := by
      by_cases e : p = start - 1
      ·rw [e]; exact hS.irrefl _
      ·exact ha p (start - 1) k1 (by omega) (by omega)
     exact hle _ _ _ hA (hle _ _ _ hx hB)
   ·rw [v2 p (by omega) k2]
    by_cases c2 : q < en
    ·rw [v3 q k3 c2]
     have hx : lt d[mid + m - 1 - start]! d[start]! = true := h2 (by omega)
     have ee : mid + m - 1 - start = en - 1 := by omega
     rw [ee] at hx
     have hA : lt d[q - (en - m)]! d[start]! = false := by
      by_cases e : q - (en - m) = start
      ·rw [e]; exact hS.irrefl _
      ·exact ha _ _ f1 (by omega) (by omega)
     have hB : lt d[en - 1]! d[p + (m - start)]! = false := by
      by_cases e : p + (m - start) = en - 1
      ·rw [e]; exact hS.irrefl _
      ·exact hb' _ _ (by omega) (by omega) (by omega)
     exact hle _ _ _ hA (hle _ _ _ (hS.asymmA hx) hB)
    ·rw [v4 q (by omega)]; exact hb' _ _ (by omega) (by omega) k4
  have cross2 : ∀ p, a ≤ p → p < mid → ∀ q, mid ≤ q → q < b → lt d1[q]! d2[p]! = false :=
   permIn_all d1 d2 a mid (fun x => ∀ q, mid ≤ q → q < b → lt d1[q]! x = false) (by omega) m1.1 (fun p k1 k2 q k3 k4 => cross1 p q k1 k2 k3 k4)
  have cross3 : ∀ q, mid ≤ q → q < b → ∀ p, a ≤ p → p < mid → lt d3[q]! d2[p]! = false :=
   permIn_all d2 d3 mid b (fun y => ∀ p, a ≤ p → p < mid → lt y d2[p]! = false) (by omega) m2.1 (fun q k1 k2 p k3 k4 => by rw [o1 q k1]; exact cross2 p k3 k4 q k1 k2)
  intro p q k1 k2 k3
  by_cases c1 : q < mid
  ·rw [o2 p (by omega), o2 q c1]; exact t1 p q k1 k2 c1
  ·by_cases c2 : p < mid
   ·rw [o2 p c2]; exact cross3 q (by omega) k3 p k1 c2
   ·exact t2 p q (by omega) k2 k3
 ·have e : start = hi := by
   rcases Nat.lt_or_ge start hi with h | h
   ·have hx := h2 h
    rw [hs start (mid + m - 1 - start) f1 (by omega) (by omega)] at hx; cases hx
   ·omega
  have e1 : d1 = d := by
   rcases hc with ⟨q1, q2, q3⟩ | ⟨q1, q2, q3⟩
   ·obtain rfl : en = m := by omega
    exact ext_all s1 hr.same_right
   ·obtain rfl : start = m := by omega
    exact ext_all s1 hr.same_left
  subst e1
  have e2 := m1.2.2 (SortedIn.rot_lo hs (Nat.le_refl _) f9)
  subst e2
  exact m2.2.2 (SortedIn.rot_lo hs f8 (Nat.le_refl _))
theorem perm_exch_step {d dk : Array α} {lo hi i j : Nat} (h : PermIn lo hi d dk) (h1 : lo ≤ i) (h2 : i < hi) (h3 : lo ≤ j) (h4 : j < hi) (hs : hi ≤ d.size) : PermIn lo hi d (swp dk i j) :=
 permIn_trans _ _ _ lo hi h (swp_permIn dk lo hi i j h1 h2 h3 h4 (by rw [h.1]; exact hs))
theorem insInner_id (a : Nat) : ∀ (j : Nat) (d : Array α), (a < j → lt d[j]! d[j - 1]! = false) → insInner lt a j d = d
 | 0, d, _ => by unfold insInner; rfl
 | j + 1, d, h => by
  unfold insInner
  rw [if_neg]
  simp only [Bool.and_eq_true, decide_eq_true_eq, not_and, Bool.not_eq_true]
  exact fun k => h k
theorem insOuter_id (a b : Nat) (d : Array α) (hs : SortedIn lt a b d) : ∀ (n i : Nat), b - i = n → a < i → insOuter lt a b i d = d := by
 intro n
 induction n with
 | zero => intro i hn hi; rw [insOuter, if_neg (by omega)]
 | succ n ih =>
  intro i hn hi
  rw [insOuter, if_pos (by omega), insInner_id a i d (fun _ => hs _ _ (by omega) (by omega) (by omega))]
  exact ih (i + 1) (by omega) (by omega)
theorem insertion_id {a b : Nat} {d : Array α} (hs : SortedIn lt a b d) : insertionSort lt d a b = d := by
 unfold insertionSort; exact insOuter_id a b d hs _ (a + 1) rfl (by omega)
end Go.Proofs.YtefkchmahcjleaaGreatDoor
namespace Go.Proofs.YtefkchmahcjleaaGreatDoor
open Go.Shelf Go.RowKit Go.Lib Go.Sort
variable {P : Program} {k : Nat} {α : Type} [Inhabited α]
structure St (P : Program) (k : Nat) : Prop where
 mixed : P.follows .mixedOrders = true
 fS : P.funcs[178]? = some Tryz.f178
 fR : P.funcs[177]? = some Tryz.f177
 fM : P.funcs[173]? = some Tryz.f173
 t0 : P.underlying 0 = some (TypeDesc.tuple #[])
 a0 : ∀ w, (isAgg 0).run P w = .ok false w
 z0 : ∀ w, (Go.sizeOf 0).run P w = .ok 1 w
 v0 : ∀ w, (zeroValue 0).run P w = .ok (Value.tuple #[]) w
 t3 : P.underlying 3 = some (TypeDesc.int IntKind.i64)
 a3 : ∀ w, (isAgg 3).run P w = .ok false w
 z3 : ∀ w, (Go.sizeOf 3).run P w = .ok 1 w
 v3 : ∀ w, (zeroValue 3).run P w = .ok (Value.int IntKind.i64 0) w
 t4 : P.underlying 4 = some (TypeDesc.bool)
 a4 : ∀ w, (isAgg 4).run P w = .ok false w
 z4 : ∀ w, (Go.sizeOf 4).run P w = .ok 1 w
 v4 : ∀ w, (zeroValue 4).run P w = .ok (Value.bool false) w
 tU : P.underlying 185 = some (TypeDesc.int IntKind.u64)
 aU : ∀ w, (isAgg 185).run P w = .ok false w
 zU : ∀ w, (Go.sizeOf 185).run P w = .ok 1 w
 vU : ∀ w, (zeroValue 185).run P w = .ok (Value.int IntKind.u64 0) w
 tL : P.underlying 142 = some (TypeDesc.slice 40)
 aL : ∀ w, (isAgg 142).run P w = .ok false w
 zL : ∀ w, (Go.sizeOf 142).run P w = .ok 1 w
 vL : ∀ w, (zeroValue 142).run P w = .ok (Value.slice none 0 0) w
 tF : P.underlying 207 = some (TypeDesc.func #[40, 40] #[3] false)
 aF : ∀ w, (isAgg 207).run P w = .ok false w
 zF : ∀ w, (Go.sizeOf 207).run P w = .ok 1 w
 vF : ∀ w, (zeroValue 207).run P w = .ok Value.nilFunc w
 aE : ∀ w, (isAgg 40).run P w = .ok true w
 zE : ∀ w, (Go.sizeOf 40).run P w = .ok k w
theorem swapRange_any (X : St P k) (enc : α → List Value) (fv : Value) (blk off cap a b n : Nat) (d0 d : Array α) (w0 w : World)
  (R : RowK enc k w0 blk off d0) (hs : d0.size = d.size) (S : SWK enc k w0 blk off d w) (hab : a + n ≤ b) (hb : b + n ≤ d.size) (hsz : d.size < 4611686018427387904) :
  Calls P 178 #[.slice (some ⟨blk, off, none⟩) d.size cap, .int .i64 a, .int .i64 b, .int .i64 n, fv] w fun e w' => e = .returned (.tuple #[]) ∧ ∃ d', Exch d d' a b n ∧ PermIn a (b + n) d d' ∧ SWK enc k w0 blk off d' w' := by
 have mixed := X.mixed; have t0 := X.t0; have a0 := X.a0; have z0 := X.z0; have v0 := X.v0; have t3 := X.t3; have a3 := X.a3; have z3 := X.z3; have v3 := X.v3; have t4 := X.t4; have a4 := X.a4; have z4 := X.z4; have v4 := X.v4; have tL := X.tL; have aL := X.aL; have zL := X.zL; have vL := X.vL; have tF := X.tF; have aF := X.aF; have zF := X.zF; have vF := X.vF; have aE := X.aE; have zE := X.zE
 have S0 : Aside (SWK enc k w0 blk off d w) := S
 clear S
 go_enter X.fS, Tryz.ntmps178
 go_wp2
 go_loopg [10] n (fun kx s10 wr => ∃ (i : Nat) (dk : Array α), s10 = .int .i64 i ∧ i ≤ n ∧ n - i ≤ kx ∧ dk.size = d.size ∧ Hid (Exch d dk a b i) ∧ Hid (PermIn a (b + n) d dk) ∧ Aside (SWK enc k w0 blk off dk wr))
 case atStart => exact ⟨0, d, rfl, by omega, by omega, rfl, Exch.zero d a b, permIn_refl d a (b + n), S0⟩
 case round =>
  clear S0
  obtain ⟨i, dk, rfl, hin, hkx, hds, HX, HP, S1⟩ := hrel
  by_cases hlt : i < n
  ·have hltz : (i : Int) < (n : Int) := by omega
   have NX : Hid (Exch d (swp dk (a + i) (b + i)) a b (i + 1)) := HX.out.succ (by omega) (by omega)
   have NP : Hid (PermIn a (b + n) d (swp dk (a + i) (b + i))) := perm_exch_step HP.out (by omega) (by omega) (by omega) (by omega) (by omega)
   clear HX HP
   go_wp2_with fail
   have ea44 : ((a : Int) + (i : Int)).toNat = a + i := by omega
   have pa44 : (0 : Int) ≤ (a : Int) + (i : Int) := by omega
   have ba44 : (a : Int) + (i : Int) < (d.size : Int) := by omega
   have ra44 : IntKind.i64.wrap ((a : Int) + (i : Int)) = (a : Int) + (i : Int) := by rw [IntKind.wrap_i64]; omega
   have ec44 : ((b : Int) + (i : Int)).toNat = b + i := by omega
   have pc44 : (0 : Int) ≤ (b : Int) + (i : Int) := by omega
   have bc44 : (b : Int) + (i : Int) < (d.size : Int) := by omega
   have rc44 : IntKind.i64.wrap ((b : Int) + (i : Int)) = (b : Int) + (i : Int) := by rw [IntKind.wrap_i64]; omega
   have S2 : Aside (SWK enc k w0 blk off (swp dk (a + i) (b + i)) ((wr.drew.setCells blk (off + (a + i) * k) (enc dk[b + i]!)).setCells blk (off + (b + i) * k) (enc dk[a + i]!))) := S1.out.swapped R (a + i) (b + i) (by omega) (by omega)
   have l44a := S1.out.ld1 R (by omega) P (a + i) (by omega)
   have l44b := S1.out.ld1 R (by omega) P (b + i) (by omega)
   have s44a := S1.out.st1 R (by omega) P (a + i) (by omega) dk[b + i]!
   have s44b := S1.out.st2 R (by omega) P (a + i) (b + i) (by omega) (by omega) dk[b + i]! dk[a + i]!
   have n44a : (enc dk[a + i]!).length = k := R.hk _
   have n44b : (enc dk[b + i]!).length = k := R.hk _
   generalize enc dk[a + i]! = cI44 at S2 l44a s44b n44a
   generalize enc dk[b + i]! = cJ44 at S2 l44b s44a s44b n44b
   clear S1
   go_wp2_with fail
   go_big_region_o
   clear l44a l44b s44a s44b
   generalize (wr.drew.setCells blk (off + (a + i) * k) cJ44).setCells blk (off + (b + i) * k) cI44 = w2 at S2 ⊢
   go_wp2
   go_roundg (n - (i + 1))
   case measure => omega
   case rel => exact ⟨i + 1, swp dk (a + i) (b + i), by go_num, by omega, Nat.le_refl _, by rw [size_swp]; exact hds, NX, NP, S2⟩
  ·have hin' : i = n := by omega
   have hnot : ¬ (i : Int) < (n : Int) := by omega
   go_wp2
   go_end0
   refine ⟨rfl, dk, ?_, HP.out, S1.out⟩
   rw [← hin']; exact HX.out
theorem rotate_any (X : St P k) (enc : α → List Value) (fv : Value) (blk off cap a m b : Nat) (d0 d : Array α) (w0 w : World)
  (R : RowK enc k w0 blk off d0) (hs : d0.size = d.size) (S : SWK enc k w0 blk off d w) (ham : a < m) (hmb : m < b) (hb : b ≤ d.size) (hsz : d.size < 4611686018427387904) :
  Calls P 177 #[.slice (some ⟨blk, off, none⟩) d.size cap, .int .i64 a, .int .i64 m, .int .i64 b, fv] w fun e w' => e = .returned (.tuple #[]) ∧ ∃ d', Rot d d' a m b ∧ PermIn a b d d' ∧ SWK enc k w0 blk off d' w' := by
 have mixed := X.mixed; have t0 := X.t0; have a0 := X.a0; have z0 := X.z0; have v0 := X.v0; have t3 := X.t3; have a3 := X.a3; have z3 := X.z3; have v3 := X.v3; have t4 := X.t4; have a4 := X.a4; have z4 := X.z4; have v4 := X.v4; have tL := X.tL; have aL := X.aL; have zL := X.zL; have vL := X.vL; have tF := X.tF; have aF := X.aF; have zF := X.zF; have vF := X.vF; have aE := X.aE; have zE := X.zE
 have eS : ∀ args w, (callFunc 178 args).run P w = .ok (.enter 178 args) w := enters_of X.fS (by kernel_rfl) rfl
 have S0 : Aside (SWK enc k w0 blk off d w) := S
 clear S
 go_enter X.fR, Tryz.ntmps177
 go_wp2
 go_loopg [10, 11] (b - a) (fun kx s10 s11 wr => ∃ (i j : Nat) (dk : Array α), s10 = .int .i64 i ∧ s11 = .int .i64 j ∧ 0 < i ∧ 0 < j ∧ i ≤ m - a ∧ j ≤ b - m ∧ i + j ≤ kx ∧ dk.size = d.size ∧ Hid (∀ d', Rot dk d' (m - i) m (m + j) → Rot d d' a m b) ∧ Hid (PermIn a b d dk) ∧ Aside (SWK enc k w0 blk off dk wr))
 case atStart => exact ⟨m - a, b - m, d, by go_num, by go_num, by omega, by omega, by omega, by omega, by omega, rfl, (fun d' h => by
   have e1 : m - (m - a) = a := by omega
   have e2 : m + (b - m) = b := by omega
   rw [e1, e2] at h; exact h : ∀ d', Rot d d' (m - (m - a)) m (m + (b - m)) → Rot d d' a m b), permIn_refl d a b, S0⟩
 case round =>
  clear S0
  obtain ⟨i, j, dk, rfl, rfl, hi0, hj0, him, hjm, hkx, hds, HR, HP, S1⟩ := hrel
  have hwm : (m : Int) - (i : Int) = ((m - i : Nat) : Int) := by omega
  by_cases hij : i = j
  ·subst hij
   have hc := swapRange_any X enc fv blk off cap (m - i) m i d0 dk w0 wr R (by omega) S1.out (by omega) (by omega) (by omega)
   rw [hds] at hc
   have HC : Hid (Calls P _ _ _ _) := hc
   clear hc S1
   go_wp2_with (go_at_fn 178; refine HC.out.mono ?_; rintro e w1 ⟨rfl, d1, hx, hp, S2⟩)
   go_end0
   exact ⟨rfl, d1, HR.out d1 (Rot.even (by omega) hx), permIn_trans _ _ _ a b HP.out (permIn_mono _ _ (m - i) (m + i) a b (by omega) (by omega) (by omega) hp), S2⟩
  ·by_cases hgt : j < i
   ·have hc := swapRange_any X enc fv blk off cap (m - i) m j d0 dk w0 wr R (by omega) S1.out (by omega) (by omega) (by omega)
    rw [hds] at hc
    have HC : Hid (Calls P _ _ _ _) := hc
    clear hc S1
    have hne : ((i : Int) == (j : Int)) = false := by simp; omega
    have hgz : (j : Int) < (i : Int) := by omega
    go_wp2_with (go_at_fn 178; refine HC.out.mono ?_; rintro e w1 ⟨rfl, d1, hx, hp, S2⟩; have S3 : Aside _ := S2; clear S2; have HX : Hid _ := hx; have HQ : Hid _ := hp; clear hx hp)
    go_roundg (i - j + j)
    case measure => omega
    case rel => exact ⟨i - j, j, d1, by go_num, rfl, by omega, hj0, by omega, hjm, Nat.le_refl _, by rw [HQ.out.1]; exact hds, (fun d' h => HR.out d' (Rot.left (by omega) hj0 hgt HX.out h) : ∀ d', Rot d1 d' (m - (i - j)) m (m + j) → Rot d d' a m b), permIn_trans _ _ _ a b HP.out (permIn_mono _ _ (m - i) (m + j) a b (by omega) (by omega) (by omega) HQ.out), S3⟩
   ·have hc := swapRange_any X enc fv blk off cap (m - i) (m + j - i) i d0 dk w0 wr R (by omega) S1.out (by omega) (by omega) (by omega)
    rw [hds] at hc
    have HC : Hid (Calls P _ _ _ _) := hc
    clear hc S1
    have hne : ((i : Int) == (j : Int)) = false := by simp; omega
    have hgz : ¬ (j : Int) < (i : Int) := by omega
    have hwj : (m : Int) + (j : Int) - (i : Int) = ((m + j - i : Nat) : Int) := by omega
    go_wp2_with (go_at_fn 178; refine HC.out.mono ?_; rintro e w1 ⟨rfl, d1, hx, hp, S2⟩; have S3 : Aside _ := S2; clear S2; have HX : Hid _ := hx; have HQ : Hid _ := hp; clear hx hp)
    go_roundg (i + (j - i))
    case measure => omega
    case rel => exact ⟨i, j - i, d1, rfl, by go_num, hi0, by omega, him, by omega, Nat.le_refl _, by rw [HQ.out.1]; exact hds, (fun d' h => HR.out d' (Rot.right (by omega) hi0 (by omega) HX.out h) : ∀ d', Rot d1 d' (m - i) m (m + (j - i)) → Rot d d' a m b), permIn_trans _ _ _ a b HP.out (permIn_mono _ _ (m - i) (m + j - i + i) a b (by omega) (by omega) (by omega) HQ.out), S3⟩
end Go.Proofs.YtefkchmahcjleaaGreatDoor
namespace Go.Proofs.YtefkchmahcjleaaGreatDoor
open Go.Shelf Go.RowKit Go.Lib Go.Sort
variable {P : Program} {k : Nat} {α : Type} [Inhabited α]
omit [Inhabited α] in
theorem lt_yes {cf : α → α → Int} {x y : α} (h : cf x y < 0) : ltOf cf x y = true := decide_eq_true h
omit [Inhabited α] in
theorem lt_no {cf : α → α → Int} {x y : α} (h : ¬ cf x y < 0) : ltOf cf x y = false := decide_eq_false h
abbrev MergePost (enc : α → List Value) (k : Nat) (cf : α → α → Int) (w0 : World) (blk off a m b : Nat) (d : Array α) (e : Ending) (w' : World) : Prop :=
 e = .returned (.tuple #[]) ∧ ∃ d', Merged (ltOf cf) a m b d d' ∧ SWK enc k w0 blk off d' w'
theorem sym_left (X : St P k) (enc : α → List Value) (cf : α → α → Int) (g : Nat) (cb : Array Value) (hO : SWO (ltOf cf)) (blk off cap : Nat) (d0 : Array α) (w0 : World)
  (eg : ∀ args w, (callFunc g args).run P w = .ok (.enter g args) w) (hC : CmpLays P g cb enc k cf blk off d0.size w0) (R : RowK enc k w0 blk off d0) (a m b : Nat) (d : Array α) (w : World) (hs : d0.size = d.size) (S : SWK enc k w0 blk off d w) (ham : a < m) (hm : m ≤ a + 1) (hmb : m < b) (hb : b ≤ d.size) (hsz : d.size < 2305843009213693952) :
  Calls P 173 #[.slice (some ⟨blk, off, none⟩) d.size cap, .int .i64 a, .int .i64 m, .int .i64 b, .func (.func g) #[] cb] w (MergePost enc k cf w0 blk off a m b d) := by
 have mixed := X.mixed; have t0 := X.t0; have a0 := X.a0; have z0 := X.z0; have v0 := X.v0; have t3 := X.t3; have a3 := X.a3; have z3 := X.z3; have v3 := X.v3; have t4 := X.t4; have a4 := X.a4; have z4 := X.z4; have v4 := X.v4; have tU := X.tU; have aU := X.aU; have zU := X.zU; have vU := X.vU; have tL := X.tL; have aL := X.aL; have zL := X.zL; have vL := X.vL; have tF := X.tF; have aF := X.aF; have zF := X.zF; have vF := X.vF; have aE := X.aE; have zE := X.zE
 have HC : Aside (CmpLays P g cb enc k cf blk off d0.size w0) := hC
 clear hC
 have hmz : (((m : Int) - (a : Int)) == 1) = true := by simp; omega
 have S0 : Aside (SWK enc k w0 blk off d w) := S
 clear S
 go_enter X.fM, Tryz.ntmps173
 go_wp2
 go_loopg [10, 11] (b - a) (fun kx s10 s11 wr => ∃ (i j : Nat), s10 = .int .i64 i ∧ s11 = .int .i64 j ∧ a + 1 ≤ i ∧ i ≤ j ∧ j ≤ b ∧ j - i ≤ kx ∧ Hid (a + 1 < i → ltOf cf d[i - 1]! d[a]! = true) ∧ Hid (j < b → ltOf cf d[j]! d[a]! = false) ∧ Aside (SWK enc k w0 blk off d wr))
 case atStart => exact ⟨m, b, rfl, rfl, by omega, by omega, Nat.le_refl _, by omega, (fun h => absurd h (by omega) : a + 1 < m → _), (fun h => absurd h (by omega) : b < b → _), S0⟩
 case round =>
  clear S0
  obtain ⟨i, j, rfl, rfl, hai, hij, hjb, hkx, H1, H2, S1⟩ := hrel
  by_cases hlt : i < j
  ·have hltz : (i : Int) < (j : Int) := by omega
   obtain ⟨h, hh⟩ : ∃ h, h = (i + j) / 2 := ⟨_, rfl⟩
   have hhz : ((i : Int) + (j : Int)) / 2 = (h : Int) := by omega
   have hh1 : i ≤ h := by omega
   have hh2 : h < j := by omega
   clear hh
   have lx := fun n os => S1.out.ld R (by omega) P (h) (by omega) n os
   have ly := fun n os => S1.out.ld R (by omega) P (a) (by omega) n os
   have hcg := fun n os => S1.out.cmp HC.out (by omega) d[h]! d[a]! n os
   have CLS : Hid (∀ n os, SWK enc k w0 blk off d (grow (wr.drewN n) os)) := fun n os => S1.out.grown n os
   generalize hxe : d[h]! = x at lx hcg
   generalize hye : d[a]! = y at ly hcg
   have HXE : Hid (d[h]! = x) := hxe
   have HYE : Hid (d[a]! = y) := hye
   clear hxe hye S1
   have hhd : (h : Int) < (d.size : Int) := by omega
   have had : (a : Int) < (d.size : Int) := by omega
   by_cases hlv : cf x y < 0
   ·have N1 : Hid (a + 1 < h + 1 → ltOf cf d[h + 1 - 1]! d[a]! = true) := fun _ => by rw [Nat.add_sub_cancel, HXE.out, HYE.out]; exact lt_yes hlv
    go_wp2_with fail
    go_quiet_grown (first | (go_at_fn g; refine Calls.grown_of (hcg _ _)))
    have S2 : Aside (SWK enc k w0 blk off d (grow (wr.drewN nq) osq)) := CLS.out nq osq
    clear CLS lx ly hcg
    generalize grow (wr.drewN nq) osq = w2 at S2 ⊢
    go_wp2
    go_roundg (j - (h + 1))
    case measure => omega
    case rel => exact ⟨h + 1, j, by go_num, rfl, by omega, by omega, hjb, Nat.le_refl _, N1, H2, S2⟩
   ·have N2 : Hid (h < b → ltOf cf d[h]! d[a]! = false) := fun _ => by rw [HXE.out, HYE.out]; exact lt_no hlv
    go_wp2_with fail
    go_quiet_grown (first | (go_at_fn g; refine Calls.grown_of (hcg _ _)))
    have S2 : Aside (SWK enc k w0 blk off d (grow (wr.drewN nq) osq)) := CLS.out nq osq
    clear CLS lx ly hcg
    generalize grow (wr.drewN nq) osq = w2 at S2 ⊢
    go_wp2
    go_roundg (h - i)
    case measure => omega
    case rel => exact ⟨i, h, rfl, rfl, hai, hh1, by omega, Nat.le_refl _, H1, N2, S2⟩
  ·have hji : j = i := by omega
   subst hji
   have hnot : ¬ (j : Int) < (j : Int) := by omega
   obtain ⟨ip, rfl⟩ : ∃ ip, j = ip + 1 := ⟨j - 1, by omega⟩
   go_wp2
   go_loopg [13] (b - a) (fun kx s13 wr2 => ∃ (t : Nat) (dk : Array α), s13 = .int .i64 t ∧ a ≤ t ∧ t ≤ ip ∧ ip - t ≤ kx ∧ dk.size = d.size ∧ Hid (Rot d dk a (a + 1) (t + 1)) ∧ Hid (PermIn a b d dk) ∧ Aside (SWK enc k w0 blk off dk wr2))
   case atStart => exact ⟨a, d, rfl, Nat.le_refl _, by omega, by omega, rfl, Rot.up0 d a, permIn_refl d a b, S1⟩
   case round =>
    clear S1
    obtain ⟨t, dk, rfl, hat, htp, hkx2, hds, HR, HP, S1⟩ := hrel
    by_cases htl : t < ip
    ·have htlz : (t : Int) < (ip : Int) := by omega
     have NR : Hid (Rot d (swp dk t (t + 1)) a (a + 1) (t + 2)) := HR.out.up hat (by omega)
     have NP : Hid (PermIn a b d (swp dk t (t + 1))) := perm_exch_step HP.out hat (by omega) (by omega) (by omega) hb
     clear HR HP
     go_wp2_with fail
     have ea44 : ((t : Int)).toNat = t := by omega
     have pa44 : (0 : Int) ≤ (t : Int) := by omega
     have ba44 : (t : Int) < (d.size : Int) := by omega
     have ra44 : IntKind.i64.wrap ((t : Int)) = (t : Int) := by rw [IntKind.wrap_i64]; omega
     have ec44 : ((t : Int) + 1).toNat = t + 1 := by omega
     have pc44 : (0 : Int) ≤ (t : Int) + 1 := by omega
     have bc44 : (t : Int) + 1 < (d.size : Int) := by omega
     have rc44 : IntKind.i64.wrap ((t : Int) + 1) = (t : Int) + 1 := by rw [IntKind.wrap_i64]; omega
     have S2 : Aside (SWK enc k w0 blk off (swp dk (t) (t + 1)) ((wr.drew.setCells blk (off + (t) * k) (enc dk[t + 1]!)).setCells blk (off + (t + 1) * k) (enc dk[t]!))) := S1.out.swapped R (t) (t + 1) (by omega) (by omega)
     have l44a := S1.out.ld1 R (by omega) P (t) (by omega)
     have l44b := S1.out.ld1 R (by omega) P (t + 1) (by omega)
     have s44a := S1.out.st1 R (by omega) P (t) (by omega) dk[t + 1]!
     have s44b := S1.out.st2 R (by omega) P (t) (t + 1) (by omega) (by omega) dk[t + 1]! dk[t]!
     have n44a : (enc dk[t]!).length = k := R.hk _
     have n44b : (enc dk[t + 1]!).length = k := R.hk _
     generalize enc dk[t]! = cI44 at S2 l44a s44b n44a
     generalize enc dk[t + 1]! = cJ44 at S2 l44b s44a s44b n44b
     clear S1
     go_wp2_with fail
     go_big_region_o
     clear l44a l44b s44a s44b
     generalize (wr.drew.setCells blk (off + (t) * k) cJ44).setCells blk (off + (t + 1) * k) cI44 = w2 at S2 ⊢
     go_wp2
     go_roundg (ip - (t + 1))
     case measure => omega
     case rel => exact ⟨t + 1, swp dk t (t + 1), by go_num, by omega, by omega, Nat.le_refl _, by rw [size_swp]; exact hds, NR, NP, S2⟩
    ·have htz : ¬ (t : Int) < (ip : Int) := by omega
     have hte : t = ip := by omega
     go_wp2
     (try simp only [Exit.inBlock, Exit.then]); refine bodyPost_ret (results_none rfl _ _ _) rfl ?_
     refine ⟨rfl, dk, ?_, S1.out⟩
     have hr := HR.out
     rw [hte] at hr
     obtain rfl : m = a + 1 := by omega
     exact merged_one_left hO (by omega) hjb HP.out hr H1.out H2.out
theorem sym_right (X : St P k) (enc : α → List Value) (cf : α → α → Int) (g : Nat) (cb : Array Value) (hO : SWO (ltOf cf)) (blk off cap : Nat) (d0 : Array α) (w0 : World)
  (eg : ∀ args w, (callFunc g args).run P w = .ok (.enter g args) w) (hC : CmpLays P g cb enc k cf blk off d0.size w0) (R : RowK enc k w0 blk off d0) (a m b : Nat) (d : Array α) (w : World) (hs : d0.size = d.size) (S : SWK enc k w0 blk off d w) (ham : a + 1 < m) (hmb : m < b) (hbm : b ≤ m + 1) (hb : b ≤ d.size) (hsz : d.size < 2305843009213693952) :
  Calls P 173 #[.slice (some ⟨blk, off, none⟩) d.size cap, .int .i64 a, .int .i64 m, .int .i64 b, .func (.func g) #[] cb] w (MergePost enc k cf w0 blk off a m b d) := by
 have mixed := X.mixed; have t0 := X.t0; have a0 := X.a0; have z0 := X.z0; have v0 := X.v0; have t3 := X.t3; have a3 := X.a3; have z3 := X.z3; have v3 := X.v3; have t4 := X.t4; have a4 := X.a4; have z4 := X.z4; have v4 := X.v4; have tU := X.tU; have aU := X.aU; have zU := X.zU; have vU := X.vU; have tL := X.tL; have aL := X.aL; have zL := X.zL; have vL := X.vL; have tF := X.tF; have aF := X.aF; have zF := X.zF; have vF := X.vF; have aE := X.aE; have zE := X.zE
 have HC : Aside (CmpLays P g cb enc k cf blk off d0.size w0) := hC
 clear hC
 have S0 : Aside (SWK enc k w0 blk off d w) := S
 clear S
 have hma : (((m : Int) - (a : Int)) == 1) = false := by simp; omega
 have hbz : (((b : Int) - (m : Int)) == 1) = true := by simp; omega
 go_enter X.fM, Tryz.ntmps173
 go_wp2
 go_loopg [14, 15] (m - a) (fun kx s10 s11 wr => ∃ (i j : Nat), s10 = .int .i64 i ∧ s11 = .int .i64 j ∧ a ≤ i ∧ i ≤ j ∧ j ≤ m ∧ j - i ≤ kx ∧ Hid (a < i → ltOf cf d[m]! d[i - 1]! = false) ∧ Hid (j < m → ltOf cf d[m]! d[j]! = true) ∧ Aside (SWK enc k w0 blk off d wr))
 case atStart => exact ⟨a, m, rfl, rfl, Nat.le_refl _, by omega, Nat.le_refl _, by omega, (fun h => absurd h (by omega) : a < a → _), (fun h => absurd h (by omega) : m < m → _), S0⟩
 case round =>
  clear S0
  obtain ⟨i, j, rfl, rfl, hai, hij, hjb, hkx, H1, H2, S1⟩ := hrel
  by_cases hlt : i < j
  ·have hltz : (i : Int) < (j : Int) := by omega
   obtain ⟨h, hh⟩ : ∃ h, h = (i + j) / 2 := ⟨_, rfl⟩
   have hhz : ((i : Int) + (j : Int)) / 2 = (h : Int) := by omega
   have hh1 : i ≤ h := by omega
   have hh2 : h < j := by omega
   clear hh
   have lx := fun n os => S1.out.ld R (by omega) P (m) (by omega) n os
   have ly := fun n os => S1.out.ld R (by omega) P (h) (by omega) n os
   have hcg := fun n os => S1.out.cmp HC.out (by omega) d[m]! d[h]! n os
   have CLS : Hid (∀ n os, SWK enc k w0 blk off d (grow (wr.drewN n) os)) := fun n os => S1.out.grown n os
   generalize hxe : d[m]! = x at lx hcg
   generalize hye : d[h]! = y at ly hcg
   have HXE : Hid (d[m]! = x) := hxe
   have HYE : Hid (d[h]! = y) := hye
   clear hxe hye S1
   have hhd : (h : Int) < (d.size : Int) := by omega
   have had : (m : Int) < (d.size : Int) := by omega
   by_cases hlv : cf x y < 0
   ·have N2 : Hid (h < m → ltOf cf d[m]! d[h]! = true) := fun _ => by rw [HXE.out, HYE.out]; exact lt_yes hlv
    have hdv : decide (cf x y < 0) = true := decide_eq_true hlv
    go_wp2_with fail
    go_quiet_grown (first | (go_at_fn g; refine Calls.grown_of (hcg _ _)))
    have S2 : Aside (SWK enc k w0 blk off d (grow (wr.drewN nq) osq)) := CLS.out nq osq
    clear CLS lx ly hcg
    generalize grow (wr.drewN nq) osq = w2 at S2 ⊢
    go_wp2
    go_roundg (h - i)
    case measure => omega
    case rel => exact ⟨i, h, rfl, rfl, hai, hh1, by omega, Nat.le_refl _, H1, N2, S2⟩
   ·have N1 : Hid (a < h + 1 → ltOf cf d[m]! d[h + 1 - 1]! = false) := fun _ => by rw [Nat.add_sub_cancel, HXE.out, HYE.out]; exact lt_no hlv
    have hdv : decide (cf x y < 0) = false := decide_eq_false hlv
    go_wp2_with fail
    go_quiet_grown (first | (go_at_fn g; refine Calls.grown_of (hcg _ _)))
    have S2 : Aside (SWK enc k w0 blk off d (grow (wr.drewN nq) osq)) := CLS.out nq osq
    clear CLS lx ly hcg
    generalize grow (wr.drewN nq) osq = w2 at S2 ⊢
    go_wp2
    go_roundg (j - (h + 1))
    case measure => omega
    case rel => exact ⟨h + 1, j, by go_num, rfl, by omega, by omega, hjb, Nat.le_refl _, N1, H2, S2⟩
  ·have hji : j = i := by omega
   subst hji
   have hnot : ¬ (j : Int) < (j : Int) := by omega
   go_wp2
   go_loopg [17] (m - a) (fun kx s13 wr2 => ∃ (t : Nat) (dk : Array α), s13 = .int .i64 t ∧ j ≤ t ∧ t ≤ m ∧ t - j ≤ kx ∧ dk.size = d.size ∧ Hid (Rot d dk t m (m + 1)) ∧ Hid (PermIn a (m + 1) d dk) ∧ Aside (SWK enc k w0 blk off dk wr2))
   case atStart => exact ⟨m, d, rfl, hjb, Nat.le_refl _, by omega, rfl, Rot.down0 d m, permIn_refl d a (m + 1), S1⟩
   case round =>
    clear S1
    obtain ⟨t, dk, rfl, hat, htp, hkx2, hds, HR, HP, S1⟩ := hrel
    by_cases htl : j < t
    ·obtain ⟨tp, rfl⟩ : ∃ tp, t = tp + 1 := ⟨t - 1, by omega⟩
     have htlz : (j : Int) < (tp : Int) + 1 := by omega
     have NR : Hid (Rot d (swp dk (tp + 1) tp) tp m (m + 1)) := HR.out.down (by omega) (by omega)
     have NP : Hid (PermIn a (m + 1) d (swp dk (tp + 1) tp)) := perm_exch_step HP.out (by omega) (by omega) (by omega) (by omega) (by omega)
     clear HR HP
     go_wp2_with fail
     have ea44 : ((tp : Int) + 1).toNat = tp + 1 := by omega
     have pa44 : (0 : Int) ≤ (tp : Int) + 1 := by omega
     have ba44 : (tp : Int) + 1 < (d.size : Int) := by omega
     have ra44 : IntKind.i64.wrap ((tp : Int) + 1) = (tp : Int) + 1 := by rw [IntKind.wrap_i64]; omega
     have ec44 : ((tp : Int)).toNat = tp := by omega
     have pc44 : (0 : Int) ≤ (tp : Int) := by omega
     have bc44 : (tp : Int) < (d.size : Int) := by omega
     have rc44 : IntKind.i64.wrap ((tp : Int)) = (tp : Int) := by rw [IntKind.wrap_i64]; omega
     have S2 : Aside (SWK enc k w0 blk off (swp dk (tp + 1) (tp)) ((wr.drew.setCells blk (off + (tp + 1) * k) (enc dk[tp]!)).setCells blk (off + (tp) * k) (enc dk[tp + 1]!))) := S1.out.swapped R (tp + 1) (tp) (by omega) (by omega)
     have l44a := S1.out.ld1 R (by omega) P (tp + 1) (by omega)
     have l44b := S1.out.ld1 R (by omega) P (tp) (by omega)
     have s44a := S1.out.st1 R (by omega) P (tp + 1) (by omega) dk[tp]!
     have s44b := S1.out.st2 R (by omega) P (tp + 1) (tp) (by omega) (by omega) dk[tp]! dk[tp + 1]!
     have n44a : (enc dk[tp + 1]!).length = k := R.hk _
     have n44b : (enc dk[tp]!).length = k := R.hk _
     generalize enc dk[tp + 1]! = cI44 at S2 l44a s44b n44a
     generalize enc dk[tp]! = cJ44 at S2 l44b s44a s44b n44b
     clear S1
     go_wp2_with fail
     go_big_region_o
     clear l44a l44b s44a s44b
     generalize (wr.drew.setCells blk (off + (tp + 1) * k) cJ44).setCells blk (off + (tp) * k) cI44 = w2 at S2 ⊢
     go_wp2
     go_roundg (tp - j)
     case measure => omega
     case rel => exact ⟨tp, swp dk (tp + 1) tp, by first | rfl | go_num | (congr 1; omega), by omega, by omega, Nat.le_refl _, by rw [size_swp]; exact hds, NR, NP, S2⟩
    ·have htz : ¬ (j : Int) < (t : Int) := by omega
     have hte : t = j := by omega
     go_wp2
     (try simp only [Exit.inBlock, Exit.then]); refine bodyPost_ret (results_none rfl _ _ _) rfl ?_
     refine ⟨rfl, dk, ?_, S1.out⟩
     have hr := HR.out
     rw [hte] at hr
     obtain rfl : b = m + 1 := by omega
     exact merged_one_right hO hai hjb HP.out hr H1.out H2.out
end Go.Proofs.YtefkchmahcjleaaGreatDoor
