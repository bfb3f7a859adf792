/-
 Plain mathematics of a stable sort in place: parts that are turned about, a merge by turning; no program is named here.
-/
import Derived.Sort.LotA
import Derived.Test.YtppodkkefegbkaaGreatDoorProg
import Derived.Shelf.SlSortCmp.KitK
import Derived.Sort.WalkB2
import Derived.Sort.WalkB12
import Derived.Deep.LoopGhost
set_option maxRecDepth 100000
set_option maxHeartbeats 16000000
namespace Go.Proofs.YtppodkkefegbkaaGreatDoor
open Go.Sort
variable {α : Type} [Inhabited α] {lt : α → α → Bool}
def Rot (d d' : Array α) (lo m hi : Nat) : Prop :=
 ∀ x, d'[x]! = if x < lo ∨ hi ≤ x then d[x]! else if x < lo + (hi - m) then d[x + (m - lo)]! else d[x - (hi - m)]!
def Exch (d d' : Array α) (a b n : Nat) : Prop :=
 ∀ x, d'[x]! = if a ≤ x ∧ x < a + n then d[x + (b - a)]! else if b ≤ x ∧ x < b + n then d[x - (b - a)]! else d[x]!
theorem Exch.zero (d : Array α) (a b : Nat) : Exch d d a b 0 := fun x => by
 rw [if_neg (by omega), if_neg (by omega)]
theorem Exch.succ {d dk : Array α} {a b k : Nat} (h : Exch d dk a b k) (hab : a + k < b) (hb : b + k < dk.size) : Exch d (swp dk (a + k) (b + k)) a b (k + 1) := fun x => by
 have vA : dk[a + k]! = d[a + k]! := by rw [h (a + k), if_neg (by omega), if_neg (by omega)]
 have vB : dk[b + k]! = d[b + k]! := by rw [h (b + k), if_neg (by omega), if_neg (by omega)]
 rw [swp_get dk (show a + k < dk.size by omega) hb, vA, vB]
 by_cases h1 : x = b + k
 ·rw [if_pos h1, if_neg (by omega), if_pos (by omega)]
  congr 1; omega
 ·rw [if_neg h1]
  by_cases h2 : x = a + k
  ·rw [if_pos h2, if_pos (by omega)]
   congr 1; omega
  ·rw [if_neg h2, h x]
   by_cases h3 : a ≤ x ∧ x < a + k
   ·rw [if_pos h3, if_pos (by omega)]
   ·rw [if_neg h3, if_neg (by omega : ¬ (a ≤ x ∧ x < a + (k + 1)))]
    by_cases h4 : b ≤ x ∧ x < b + k
    ·rw [if_pos h4, if_pos (by omega)]
    ·rw [if_neg h4, if_neg (by omega)]
theorem Rot.even {d d' : Array α} {m i : Nat} (hi : i ≤ m) (h : Exch d d' (m - i) m i) : Rot d d' (m - i) m (m + i) := fun x => by
 rw [h x]
 by_cases h1 : x < m - i ∨ m + i ≤ x
 ·rw [if_neg (by omega), if_neg (by omega), if_pos h1]
 ·rw [if_neg h1]
  by_cases h2 : x < m - i + (m + i - m)
  ·rw [if_pos (by omega), if_pos h2]
  ·rw [if_neg (by omega), if_pos (by omega), if_neg h2]
   congr 1; omega
theorem Rot.left {d dk d' : Array α} {m i j : Nat} (hi : i ≤ m) (hj : 0 < j) (hji : j < i) (h : Exch d dk (m - i) m j) (hr : Rot dk d' (m - (i - j)) m (m + j)) : Rot d d' (m - i) m (m + j) := fun x => by
 rw [hr x]
 by_cases h1 : x < m - i ∨ m + j ≤ x
 ·rw [if_pos (by omega), if_pos h1, h x, if_neg (by omega), if_neg (by omega)]
 ·rw [if_neg h1]
  by_cases h2 : x < m - i + j
  ·rw [if_pos (by omega), if_pos (by omega), h x, if_pos (by omega)]
  ·rw [if_neg (by omega), if_neg (by omega : ¬ x < m - i + (m + j - m))]
   by_cases h3 : x < m - (i - j) + j
   ·rw [if_pos (by omega), h, if_neg (by omega), if_pos (by omega)]
    congr 1; omega
   ·rw [if_neg (by omega), h, if_neg (by omega), if_neg (by omega)]
theorem Rot.right {d dk d' : Array α} {m i j : Nat} (hi : i ≤ m) (h0 : 0 < i) (hij : i < j) (h : Exch d dk (m - i) (m + j - i) i) (hr : Rot dk d' (m - i) m (m + (j - i))) : Rot d d' (m - i) m (m + j) := fun x => by
 rw [hr x]
 by_cases h1 : x < m - i ∨ m + j ≤ x
 ·rw [if_pos (by omega), if_pos h1, h x, if_neg (by omega), if_neg (by omega)]
 ·rw [if_neg h1]
  by_cases h2 : m + (j - i) ≤ x
  ·rw [if_pos (by omega), if_neg (by omega), h x, if_neg (by omega), if_pos (by omega)]
   congr 1; omega
  ·rw [if_neg (by omega)]
   by_cases h3 : x < m - i + (j - i)
   ·rw [if_pos (by omega), if_pos (by omega), h]
    rw [if_neg (by omega), if_neg (by omega)]
   ·rw [if_neg (by omega), if_pos (by omega), h, if_pos (by omega)]
    congr 1; omega
theorem Rot.up0 (d : Array α) (a : Nat) : Rot d d a (a + 1) (a + 1) := fun x => by
 by_cases h1 : x < a ∨ a + 1 ≤ x
 ·rw [if_pos h1]
 ·rw [if_neg h1, if_neg (by omega)]; congr 1; omega
theorem Rot.up {d dk : Array α} {a k : Nat} (h : Rot d dk a (a + 1) (k + 1)) (hk : a ≤ k) (hs : k + 1 < dk.size) : Rot d (swp dk k (k + 1)) a (a + 1) (k + 2) := fun x => by
 rw [swp_get dk (show k < dk.size by omega) hs, h k, h (k + 1), h x]
 by_cases h1 : x = k + 1
 ·subst h1
  rw [if_pos rfl, if_neg (by omega), if_neg (by omega), if_neg (by omega), if_neg (by omega)]
  congr 1; omega
 ·rw [if_neg h1]
  by_cases h2 : x = k
  ·subst h2
   rw [if_pos rfl, if_pos (by omega), if_neg (by omega), if_pos (by omega)]
   congr 1; omega
  ·rw [if_neg h2]
   by_cases h3 : x < a ∨ k + 1 ≤ x
   ·rw [if_pos h3, if_pos (by omega)]
   ·rw [if_neg h3, if_pos (by omega), if_neg (by omega), if_pos (by omega)]
theorem Rot.down0 (d : Array α) (m : Nat) : Rot d d m m (m + 1) := fun x => by
 by_cases h1 : x < m ∨ m + 1 ≤ x
 ·rw [if_pos h1]
 ·rw [if_neg h1, if_pos (by omega)]; congr 1; omega
theorem Rot.down {d dk : Array α} {m k : Nat} (h : Rot d dk (k + 1) m (m + 1)) (hk : k + 1 ≤ m) (hs : k + 1 < dk.size) : Rot d (swp dk (k + 1) k) k m (m + 1) := fun x => by
 rw [swp_get dk hs (show k < dk.size by omega), h k, h (k + 1), h x]
 by_cases h1 : x = k
 ·subst h1
  rw [if_pos rfl, if_neg (by omega), if_pos (by omega), if_neg (by omega), if_pos (by omega)]
  congr 1; omega
 ·rw [if_neg h1]
  by_cases h2 : x = k + 1
  ·subst h2
   rw [if_pos rfl, if_pos (by omega), if_neg (by omega), if_neg (by omega)]
   congr 1; omega
  ·rw [if_neg h2]
   by_cases h3 : x < k + 1 ∨ m + 1 ≤ x
   ·rw [if_pos h3, if_pos (by omega)]
   ·rw [if_neg h3, if_neg (by omega), if_neg (by omega), if_neg (by omega)]
theorem Rot.same_left {d d' : Array α} {m hi : Nat} (h : Rot d d' m m hi) : ∀ x : Nat, d'[x]! = d[x]! := fun x => by
 rw [h x]
 split
 ·rfl
 ·rw [if_pos (by omega)]; congr 1; omega
theorem Rot.same_right {d d' : Array α} {lo m : Nat} (h : Rot d d' lo m m) : ∀ x : Nat, d'[x]! = d[x]! := fun x => by
 rw [h x]
 split
 ·rfl
 ·rw [if_neg (by omega)]; congr 1; omega
theorem ext_all {d d' : Array α} (hs : d'.size = d.size) (h : ∀ x : Nat, d'[x]! = d[x]!) : d' = d := by
 apply Array.ext hs
 intro i h1 h2
 have := h i
 rwa [getElem!_pos d' i h1, getElem!_pos d i h2] at this
theorem SortedIn.rot_lo {d : Array α} {a b a' b' : Nat} (h : SortedIn lt a b d) (h1 : a ≤ a') (h2 : b' ≤ b) : SortedIn lt a' b' d := fun i j p q r => h i j (by omega) q (by omega)
theorem Rot.lo_at {d d' : Array α} {lo m hi : Nat} (h : Rot d d' lo m hi) {x : Nat} (h1 : lo ≤ x) (h2 : x < lo + (hi - m)) (h3 : x < hi) : d'[x]! = d[x + (m - lo)]! := by
 rw [h x, if_neg (by omega), if_pos h2]
theorem Rot.hi_at {d d' : Array α} {lo m hi : Nat} (h : Rot d d' lo m hi) {x : Nat} (h1 : lo ≤ x) (h2 : lo + (hi - m) ≤ x) (h3 : x < hi) : d'[x]! = d[x - (hi - m)]! := by
 rw [h x, if_neg (by omega), if_neg (by omega)]
theorem Rot.out_at {d d' : Array α} {lo m hi : Nat} (h : Rot d d' lo m hi) {x : Nat} (h1 : x < lo ∨ hi ≤ x) : d'[x]! = d[x]! := by
 rw [h x, if_pos h1]
theorem Rot.refl_left (d : Array α) (m hi : Nat) : Rot d d m m hi := fun x => by
 split
 ·rfl
 ·rw [if_pos (by omega)]; congr 1; omega
theorem Rot.refl_right (d : Array α) (lo m : Nat) : Rot d d lo m m := fun x => by
 split
 ·rfl
 ·rw [if_neg (by omega)]; congr 1; omega
def Merged (lt : α → α → Bool) (a m b : Nat) (d d' : Array α) : Prop :=
 PermIn a b d d' ∧ (SortedIn lt a m d → SortedIn lt m b d → SortedIn lt a b d') ∧ (SortedIn lt a b d → d' = d)
theorem Merged.none (lt : α → α → Bool) {a m b : Nat} (d : Array α) (h : m ≤ a ∨ b ≤ m) (h1 : a ≤ m) (h2 : m ≤ b) : Merged lt a m b d d := by
 refine ⟨permIn_refl d a b, fun s1 s2 => ?_, fun _ => rfl⟩
 rcases h with h | h
 ·obtain rfl : m = a := by omega
  exact s2
 ·obtain rfl : m = b := by omega
  exact s1
theorem merged_one_left (hS : SWO lt) {a b i : Nat} {d d' : Array α} (hab : a + 1 ≤ i) (hib : i ≤ b) (hp : PermIn a b d d') (hr : Rot d d' a (a + 1) i) (h1 : a + 1 < i → lt d[i - 1]! d[a]! = true) (h2 : i < b → lt d[i]! d[a]! = false) : Merged lt a (a + 1) b d d' := by
 refine ⟨hp, fun _ hs => ?_, fun hs => ?_⟩
 ·have g : ∀ x, a + 1 ≤ x → x < i → lt d[x]! d[a]! = true := by
   intro x hx hxi
   have h1' := h1 (by omega)
   cases hc : lt d[x]! d[a]! with
   | true => rfl
   | false =>
    have hle : lt d[i - 1]! d[x]! = false := by
     by_cases e : x = i - 1
     ·rw [e]; exact hS.irrefl _
     ·exact hs x (i - 1) hx (by omega) (by omega)
    rw [hS.ntrans _ _ _ hle hc] at h1'; cases h1'
  have g2 : ∀ x, i ≤ x → x < b → lt d[x]! d[a]! = false := by
   intro x hx hxb
   by_cases e : x = i
   ·rw [e]; exact h2 (by omega)
   ·exact hS.ntrans _ _ _ (hs i x (by omega) (by omega) hxb) (h2 (by omega))
  have v1 : ∀ x, a ≤ x → x < i - 1 → d'[x]! = d[x + 1]! := fun x k1 k2 => by
   rw [hr.lo_at k1 (by omega) (by omega)]; congr 1; omega
  have v2 : d'[i - 1]! = d[a]! := by
   rw [hr.hi_at (by omega) (by omega) (by omega)]; congr 1; omega
  have v3 : ∀ x, i ≤ x → d'[x]! = d[x]! := fun x k1 => hr.out_at (Or.inr k1)
  intro p q hap hpq hqb
  by_cases c1 : q < i - 1
  ·rw [v1 p hap (by omega), v1 q (by omega) c1]
   exact hs _ _ (by omega) (by omega) (by omega)
  ·by_cases c2 : q = i - 1
   ·rw [c2, v2, v1 p hap (by omega)]
    exact hS.asymmA (g (p + 1) (by omega) (by omega))
   ·rw [v3 q (by omega)]
    by_cases c3 : p < i - 1
    ·rw [v1 p hap c3]
     exact hs _ _ (by omega) (by omega) (by omega)
    ·by_cases c4 : p = i - 1
     ·rw [c4, v2]; exact g2 q (by omega) hqb
     ·rw [v3 p (by omega)]; exact hs _ _ (by omega) hpq hqb
 ·have e : i = a + 1 := by
   rcases Nat.lt_or_ge (a + 1) i with h | h
   ·have := hs a (i - 1) (Nat.le_refl _) (by omega) (by omega)
    rw [h1 h] at this; cases this
   ·omega
  subst e
  exact ext_all hp.1 hr.same_right
theorem merged_one_right (hS : SWO lt) {a m i : Nat} {d d' : Array α} (hai : a ≤ i) (him : i ≤ m) (hp : PermIn a (m + 1) d d') (hr : Rot d d' i m (m + 1)) (h1 : a < i → lt d[m]! d[i - 1]! = false) (h2 : i < m → lt d[m]! d[i]! = true) : Merged lt a m (m + 1) d d' := by
 refine ⟨hp, fun hs _ => ?_, fun hs => ?_⟩
 ·have v1 : ∀ x, x < i → d'[x]! = d[x]! := fun x k => hr.out_at (Or.inl k)
  have v2 : d'[i]! = d[m]! := by
   rw [hr.lo_at (Nat.le_refl _) (by omega) (by omega)]; congr 1; omega
  have v3 : ∀ x, i < x → x ≤ m → d'[x]! = d[x - 1]! := fun x k1 k2 => by
   rw [hr.hi_at (by omega) (by omega) (by omega)]; congr 1; omega
  have g1 : ∀ x, a ≤ x → x < i → lt d[m]! d[x]! = false := by
   intro x hx hxi
   by_cases e : x = i - 1
   ·rw [e]; exact h1 (by omega)
   ·exact hS.ntrans _ _ _ (h1 (by omega)) (hs x (i - 1) hx (by omega) (by omega))
  have g2 : ∀ x, i ≤ x → x < m → lt d[x]! d[m]! = false := by
   intro x hx hxm
   cases hc : lt d[x]! d[m]! with
   | false => rfl
   | true =>
    have ht := hS.trans _ _ _ hc (h2 (by omega))
    by_cases e : x = i
    ·rw [e, hS.irrefl] at ht; cases ht
    ·rw [hs i x hai (by omega) hxm] at ht; cases ht
  intro p q hap hpq hqb
  by_cases c1 : q < i
  ·rw [v1 p (by omega), v1 q c1]; exact hs _ _ hap hpq (by omega)
  ·by_cases c2 : q = i
   ·rw [c2, v2, v1 p (by omega)]; exact g1 p hap (by omega)
   ·rw [v3 q (by omega) (by omega)]
    by_cases c3 : p < i
    ·rw [v1 p c3]; exact hs _ _ hap (by omega) (by omega)
    ·by_cases c4 : p = i
     ·rw [c4, v2]; exact g2 _ (by omega) (by omega)
     ·rw [v3 p (by omega) (by omega)]; exact hs _ _ (by omega) (by omega) (by omega)
 ·have e : i = m := by
   rcases Nat.lt_or_ge i m with h | h
   ·have := hs i m hai h (by omega)
    rw [h2 h] at this; cases this
   ·omega
  subst e
  exact ext_all hp.1 hr.same_left
theorem SortedIn.congr_in {a b : Nat} {d d' : Array α} (h : SortedIn lt a b d) (he : ∀ x, a ≤ x → x < b → d'[x]! = d[x]!) : SortedIn lt a b d' := fun p q h1 h2 h3 => by
 rw [he p h1 (by omega), he q (by omega) h3]; exact h p q h1 h2 h3
theorem merged_mid (hS : SWO lt) {a m b mid lo hi start : Nat} {d d1 d2 d3 : Array α} (hb : b ≤ d.size) (ham : a < m) (hmb : m < b) (hmid : mid = (a + b) / 2)
  (hc : (mid < m ∧ lo = mid + m - b ∧ hi = mid) ∨ (m ≤ mid ∧ lo = a ∧ hi = m)) (hl : lo ≤ start) (hh : start ≤ hi)
  (h1 : lo < start → lt d[mid + m - start]! d[start - 1]! = false) (h2 : start < hi → lt d[mid + m - 1 - start]! d[start]! = true)
  (hp : PermIn start (mid + m - start) d d1) (hr : Rot d d1 start m (mid + m - start)) (m1 : Merged lt a start mid d1 d2) (m2 : Merged lt mid (mid + m - start) b d2 d3) : Merged lt a m b d d3 := by
 generalize he : mid + m - start = en at *
 have f1 : a ≤ start ∧ start ≤ mid ∧ start ≤ m ∧ m ≤ en ∧ mid ≤ en ∧ en ≤ b ∧ start + (en - m) = mid ∧ a ≤ mid ∧ mid ≤ b := by omega
 obtain ⟨f1, f2, f3, f4, f5, f6, f7, f8, f9⟩ := f1
 have s1 : d1.size = d.size := hp.1
 have s2 : d2.size = d.size := by rw [m1.1.1, s1]
 refine ⟨?_, fun ha hb' => ?_, fun hs => ?_⟩
 ·exact permIn_trans _ _ _ a b (permIn_mono _ _ start en a b f1 f6 hb hp) (permIn_trans _ _ _ a b (permIn_mono _ _ a mid a b (Nat.le_refl _) f9 (by omega) m1.1) (permIn_mono _ _ mid b a b f8 (Nat.le_refl _) (by omega) m2.1))
 ·have v1 : ∀ x, x < start → d1[x]! = d[x]! := fun x k => hr.out_at (Or.inl k)
  have v2 : ∀ x, start ≤ x → x < mid → d1[x]! = d[x + (m - start)]! := fun x k1 k2 => hr.lo_at k1 (by omega) (by omega)
  have v3 : ∀ x, mid ≤ x → x < en → d1[x]! = d[x - (en - m)]! := fun x k1 k2 => hr.hi_at (by omega) (by omega) k2
  have v4 : ∀ x, en ≤ x → d1[x]! = d[x]! := fun x k => hr.out_at (Or.inr k)
  have o1 : ∀ x, mid ≤ x → d2[x]! = d1[x]! := fun x k => m1.1.2.1 x (Or.inr k)
  have o2 : ∀ x, x < mid → d3[x]! = d2[x]! := fun x k => m2.1.2.1 x (Or.inl k)
  have t1 : SortedIn lt a mid d2 := m1.2.1 (SortedIn.congr_in (SortedIn.rot_lo ha (Nat.le_refl _) f3) fun x _ k => v1 x k) (fun p q k1 k2 k3 => by
   rw [v2 p k1 (by omega), v2 q (by omega) k3]; exact hb' _ _ (by omega) (by omega) (by omega))
  have t2 : SortedIn lt mid b d3 := m2.2.1 (fun p q k1 k2 k3 => by
   rw [o1 p k1, o1 q (by omega), v3 p k1 (by omega), v3 q (by omega) k3]; exact ha _ _ (by omega) (by omega) (by omega)) (fun p q k1 k2 k3 => by
   rw [o1 p (by omega), o1 q (by omega), v4 p k1, v4 q (by omega)]; exact hb' _ _ (by omega) k2 k3)
  have hle : ∀ x y z, lt x y = false → lt y z = false → lt x z = false := hS.ntrans
  have cross1 : ∀ p q, a ≤ p → p < mid → mid ≤ q → q < b → lt d1[q]! d1[p]! = false := by
   intro p q k1 k2 k3 k4
   by_cases c1 : p < start
   ·rw [v1 p c1]
    by_cases c2 : q < en
    ·rw [v3 q k3 c2]; exact ha _ _ k1 (by omega) (by omega)
    ·rw [v4 q (by omega)]
     have hx : lt d[en]! d[start - 1]! = false := h1 (by omega)
     have hA : lt d[q]! d[en]! = false := by
      by_cases e : q = en
      ·rw [e]; exact hS.irrefl _
      ·exact hb' en q f4 (by omega) k4
     have hB : lt d[start - 1]! d[p]! = false := by
      by_cases e : p = start - 1
      ·rw [e]; exact hS.irrefl _
      ·exact ha p (start - 1) k1 (by omega) (by omega)
     exact hle _ _ _ hA (hle _ _ _ hx hB)
   ·rw [v2 p (by omega) k2]
    by_cases c2 : q < en
    ·rw [v3 q k3 c2]
     have hx : lt d[mid + m - 1 - start]! d[start]! = true := h2 (by omega)
     have ee : mid + m - 1 - start = en - 1 := by omega
     rw [ee] at hx
     have hA : lt d[q - (en - m)]! d[start]! = false := by
      by_cases e : q - (en - m) = start
      ·rw [e]; exact hS.irrefl _
      ·exact ha _ _ f1 (by omega) (by omega)
     have hB : lt d[en - 1]! d[p + (m - start)]! = false := by
      by_cases e : p + (m - start) = en - 1
      ·rw [e]; exact hS.irrefl _
      ·exact hb' _ _ (by omega) (by omega) (by omega)
     exact hle _ _ _ hA (hle _ _ _ (hS.asymmA hx) hB)
    ·rw [v4 q (by omega)]; exact hb' _ _ (by omega) (by omega) k4
  have cross2 : ∀ p, a ≤ p → p < mid → ∀ q, mid ≤ q → q < b → lt d1[q]! d2[p]! = false :=
   permIn_all d1 d2 a mid (fun x => ∀ q, mid ≤ q → q < b → lt d1[q]! x = false) (by omega) m1.1 (fun p k1 k2 q k3 k4 => cross1 p q k1 k2 k3 k4)
  have cross3 : ∀ q, mid ≤ q → q < b → ∀ p, a ≤ p → p < mid → lt d3[q]! d2[p]! = false :=
   permIn_all d2 d3 mid b (fun y => ∀ p, a ≤ p → p < mid → lt y d2[p]! = false) (by omega) m2.1 (fun q k1 k2 p k3 k4 => by rw [o1 q k1]; exact cross2 p k3 k4 q k1 k2)
  intro p q k1 k2 k3
  by_cases c1 : q < mid
  ·rw [o2 p (by omega), o2 q c1]; exact t1 p q k1 k2 c1
  ·by_cases c2 : p < mid
   ·rw [o2 p c2]; exact cross3 q (by omega) k3 p k1 c2
   ·exact t2 p q (by omega) k2 k3
 ·have e : start = hi := by
   rcases Nat.lt_or_ge start hi with h | h
   ·have hx := h2 h
    rw [hs start (mid + m - 1 - start) f1 (by omega) (by omega)] at hx; cases hx
   ·omega
  have e1 : d1 = d := by
   rcases hc with ⟨q1, q2, q3⟩ | ⟨q1, q2, q3⟩
   ·obtain rfl : en = m := by omega
    exact ext_all s1 hr.same_right
   ·obtain rfl : start = m := by omega
    exact ext_all s1 hr.same_left
  subst e1
  have e2 := m1.2.2 (SortedIn.rot_lo hs (Nat.le_refl _) f9)
  subst e2
  exact m2.2.2 (SortedIn.rot_lo hs f8 (Nat.le_refl _))
theorem perm_exch_step {d dk : Array α} {lo hi i j : Nat} (h : PermIn lo hi d dk) (h1 : lo ≤ i) (h2 : i < hi) (h3 : lo ≤ j) (h4 : j < hi) (hs : hi ≤ d.size) : PermIn lo hi d (swp dk i j) :=
 permIn_trans _ _ _ lo hi h (swp_permIn dk lo hi i j h1 h2 h3 h4 (by rw [h.1]; exact hs))
end Go.Proofs.YtppodkkefegbkaaGreatDoor
namespace Go.Proofs.YtppodkkefegbkaaGreatDoor
open Go.Shelf Go.RowKit Go.Lib Go.Sort
variable {P : Program} {k : Nat} {α : Type} [Inhabited α]
end Go.Proofs.YtppodkkefegbkaaGreatDoor
namespace Go.Proofs.YtppodkkefegbkaaGreatDoor
open Go.Shelf Go.RowKit Go.Lib Go.Sort
variable {P : Program} {k : Nat} {α : Type} [Inhabited α]
end Go.Proofs.YtppodkkefegbkaaGreatDoor
