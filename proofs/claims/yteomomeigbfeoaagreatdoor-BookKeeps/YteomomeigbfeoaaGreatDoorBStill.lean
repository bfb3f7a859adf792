/-
 Plain mathematics of a book: what moves, is held, is free, goods and lots that come: no sum is turned, nor what there is of goods; two books are one just if their parts are, in whatever order.
-/
import Derived.Test.YteomomeigbfeoaaGreatDoorJz14
import Derived.Test.YteomomeigbfeoaaGreatDoorJz13
set_option maxRecDepth 100000
set_option maxHeartbeats 16000000
namespace Go.Proofs.YteomomeigbfeoaaGreatDoor
open Go.Lib Go.Sort
section
variable {α : Type} {f : α → ByteArray}
theorem name_uniq : ∀ {m : List α}, m.Pairwise (fun a b => zLt (f a) (f b) = true) → ∀ {x y : α}, x ∈ m → y ∈ m → f x = f y → x = y
 | [], _, x, y, hx, _, _ => by simp at hx
 | a :: m, h, x, y, hx, hy, e => by
  obtain ⟨h1, h2⟩ := List.pairwise_cons.1 h
  rcases List.mem_cons.1 hx with hx | hx
  ·rcases List.mem_cons.1 hy with hy | hy
   ·exact hx.trans hy.symm
   ·have := h1 y hy
    rw [← hx, e, zLt_irrefl] at this
    cases this
  ·rcases List.mem_cons.1 hy with hy | hy
   ·have := h1 x hx
    rw [← hy, e, zLt_irrefl] at this
    cases this
   ·exact name_uniq h2 hx hy e
theorem ord_perm_eq : ∀ {m m' : List α}, m.Pairwise (fun a b => zLt (f a) (f b) = true) → m'.Pairwise (fun a b => zLt (f a) (f b) = true) → m.Perm m' → m = m'
 | [], m', _, _, hp => (List.nil_perm.1 hp).symm
 | a :: m, [], _, _, hp => by have := hp.length_eq; simp at this
 | a :: m, b :: m', h, h', hp => by
  obtain ⟨h1, h2⟩ := List.pairwise_cons.1 h
  obtain ⟨h3, h4⟩ := List.pairwise_cons.1 h'
  have e : a = b := by
   rcases List.mem_cons.1 (hp.mem_iff.1 (List.mem_cons_self ..)) with e | e
   ·exact e
   ·rcases List.mem_cons.1 (hp.mem_iff.2 (List.mem_cons_self ..)) with e' | e'
    ·exact e'.symm
    ·have := zLt_trans (h3 a e) (h1 b e')
     rw [zLt_irrefl] at this
     cases this
  subst e
  rw [ord_perm_eq h2 h4 (List.Perm.cons_inv hp)]
theorem perm_of_sub : ∀ {l l' : List α}, l.Nodup → (∀ x ∈ l, x ∈ l') → l.length = l'.length → l.Perm l'
 | [], l', _, _, hl => by
  have : l' = [] := List.eq_nil_of_length_eq_zero (by simpa using hl.symm)
  rw [this]
 | a :: l, l', hn, hs, hl => by
  obtain ⟨h1, h2⟩ := List.nodup_cons.1 hn
  obtain ⟨s, t, rfl⟩ := List.append_of_mem (hs a (List.mem_cons_self ..))
  have hp : (s ++ a :: t).Perm (a :: (s ++ t)) := List.perm_middle
  refine List.Perm.trans (List.Perm.cons a (perm_of_sub h2 (fun x hx => ?_) ?_)) hp.symm
  ·rcases List.mem_cons.1 (hp.mem_iff.1 (hs x (List.mem_cons_of_mem _ hx))) with e | e
   ·subst e; exact absurd hx h1
   ·exact e
  ·have := hp.length_eq
   simp at hl this ⊢
   omega
end
theorem sumsB_mem {b : Bk} (hb : BkOk b) {g : Gs} (hg : g ∈ b.1) : sumsB b (nameG g) = g.2 := by
 unfold sumsB
 rcases findN_cases nameG b.1 (nameG g) with ⟨_, h2⟩ | ⟨x, h1, h2, h3⟩
 ·exact absurd rfl (h2 g hg)
 ·rw [h1, name_uniq hb.gs h2 hg h3]; rfl
def gdsB (b : Bk) : List Gd := b.1.map (·.1)
def susB (b : Bk) : List (ByteArray × Su) := b.1.map fun g => (g.1.1, g.2)
def losB (b : Bk) : List Lo := b.2.1.map (·.1)
def hesB (b : Bk) : List (ByteArray × Int) := b.2.1.map fun l => (l.1.1, l.2)
theorem gs_eq : ∀ {m m' : List Gs}, m.map (·.1) = m'.map (·.1) → m.map (fun g => (g.1.1, g.2)) = m'.map (fun g => (g.1.1, g.2)) → m = m'
 | [], [], _, _ => rfl
 | [], b :: m', h, _ => by simp at h
 | a :: m, [], h, _ => by simp at h
 | a :: m, b :: m', h, h' => by
  rw [List.map_cons, List.map_cons] at h h'
  obtain ⟨e1, e2⟩ := List.cons.inj h
  obtain ⟨e3, e4⟩ := List.cons.inj h'
  rw [gs_eq e2 e4]
  have : a.2 = b.2 := (Prod.mk.inj e3).2
  obtain ⟨a1, a2⟩ := a
  obtain ⟨b1, b2⟩ := b
  simp only at e1 this
  rw [e1, this]
theorem ls_eq : ∀ {m m' : List Lh}, m.map (·.1) = m'.map (·.1) → m.map (fun g => (g.1.1, g.2)) = m'.map (fun g => (g.1.1, g.2)) → m = m'
 | [], [], _, _ => rfl
 | [], b :: m', h, _ => by simp at h
 | a :: m, [], h, _ => by simp at h
 | a :: m, b :: m', h, h' => by
  rw [List.map_cons, List.map_cons] at h h'
  obtain ⟨e1, e2⟩ := List.cons.inj h
  obtain ⟨e3, e4⟩ := List.cons.inj h'
  rw [ls_eq e2 e4]
  have : a.2 = b.2 := (Prod.mk.inj e3).2
  obtain ⟨a1, a2⟩ := a
  obtain ⟨b1, b2⟩ := b
  simp only at e1 this
  rw [e1, this]
theorem bk_same {b b' : Bk} (h : BkOk b) (h' : BkOk b') : ((((gdsB b).Perm (gdsB b') ∧ (susB b).Perm (susB b')) ∧ (losB b).Perm (losB b')) ∧ (hesB b).Perm (hesB b')) ∧ b.2.2 = b'.2.2 ↔ b = b' := by
 constructor
 ·rintro ⟨⟨⟨⟨h1, h2⟩, h3⟩, h4⟩, h5⟩
  have k1 : gdsB b = gdsB b' := ord_perm_eq (f := fun g : Gd => g.1) (List.pairwise_map.2 h.gs) (List.pairwise_map.2 h'.gs) h1
  have k2 : susB b = susB b' := ord_perm_eq (f := fun g : ByteArray × Su => g.1) (List.pairwise_map.2 h.gs) (List.pairwise_map.2 h'.gs) h2
  have k3 : losB b = losB b' := ord_perm_eq (f := fun g : Lo => g.1) (List.pairwise_map.2 h.ls) (List.pairwise_map.2 h'.ls) h3
  have k4 : hesB b = hesB b' := ord_perm_eq (f := fun g : ByteArray × Int => g.1) (List.pairwise_map.2 h.ls) (List.pairwise_map.2 h'.ls) h4
  have e1 := gs_eq k1 k2
  have e2 := ls_eq k3 k4
  obtain ⟨b1, b2, b3⟩ := b
  obtain ⟨c1, c2, c3⟩ := b'
  simp only at e1 e2 h5
  rw [e1, e2, h5]
 ·rintro rfl
  exact ⟨⟨⟨⟨List.Perm.refl _, List.Perm.refl _⟩, List.Perm.refl _⟩, List.Perm.refl _⟩, rfl⟩
end Go.Proofs.YteomomeigbfeoaaGreatDoor
