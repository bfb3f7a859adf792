/-
 Plain mathematics of a book: what moves, is held, is free, goods and lots that come: no sum is turned, nor what there is of goods; two books are one just if the
-/
import Derived.Test.YteomomeigbfeoaaGreatDoorJz15
import Derived.Test.YteomomeigbfeoaaGreatDoorJz14
import Derived.Test.YteomomeigbfeoaaGreatDoorJz24
set_option maxRecDepth 100000
set_option maxHeartbeats 16000000
namespace Go.Proofs.YteomomeigbfeoaaGreatDoor
open Go.Lib Go.Sort
section
variable {α : Type} {f : α → ByteArray}
theorem name_uniq : ∀ {m : List α}, m.Pairwise (fun a b => zLt (f a) (f b) = true) → ∀ {x y : α}, x ∈ m → y ∈ m → f x = f y → x = y
 | [], _, x, y, hx, _, _ => by simp at hx
 | a :: m, h, x, y, hx, hy, e => by
  obtain ⟨h1, h2⟩ := List.pairwise_cons.1 h
  rcases List.mem_cons.1 hx with hx | hx
  ·rcases List.mem_cons.1 hy with hy | hy
   ·exact hx.trans hy.symm
   ·have := h1 y hy
    rw [← hx, e, zLt_irrefl] at this
    cases this
  ·rcases List.mem_cons.1 hy with hy | hy
   ·have := h1 x hx
    rw [← hy, e, zLt_irrefl] at this
    cases this
   ·exact name_uniq h2 hx hy e
theorem ord_perm_eq : ∀ {m m' : List α}, m.Pairwise (fun a b => zLt (f a) (f b) = true) → m'.Pairwise (fun a b => zLt (f a) (f b) = true) → m.Perm m' → m = m'
 | [], m', _, _, hp => (List.nil_perm.1 hp).symm
 | a :: m, [], _, _, hp => by have := hp.length_eq; simp at this
 | a :: m, b :: m', h, h', hp => by
  obtain ⟨h1, h2⟩ := List.pairwise_cons.1 h
  obtain ⟨h3, h4⟩ := List.pairwise_cons.1 h'
  have e : a = b := by
   rcases List.mem_cons.1 (hp.mem_iff.1 (List.mem_cons_self ..)) with e | e
   ·exact e
   ·rcases List.mem_cons.1 (hp.mem_iff.2 (List.mem_cons_self ..)) with e' | e'
    ·exact e'.symm
    ·have := zLt_trans (h3 a e) (h1 b e')
     rw [zLt_irrefl] at this
     cases this
  subst e
  rw [ord_perm_eq h2 h4 (List.Perm.cons_inv hp)]
theorem perm_of_sub : ∀ {l l' : List α}, l.Nodup → (∀ x ∈ l, x ∈ l') → l.length = l'.length → l.Perm l'
 | [], l', _, _, hl => by
  have : l' = [] := List.eq_nil_of_length_eq_zero (by simpa using hl.symm)
  rw [this]
 | a :: l, l', hn, hs, hl => by
  obtain ⟨h1, h2⟩ := List.nodup_cons.1 hn
  obtain ⟨s, t, rfl⟩ := List.append_of_mem (hs a (List.mem_cons_self ..))
  have hp : (s ++ a :: t).Perm (a :: (s ++ t)) := List.perm_middle
  refine List.Perm.trans (List.Perm.cons a (perm_of_sub h2 (fun x hx => ?_) ?_)) hp.symm
  ·rcases List.mem_cons.1 (hp.mem_iff.1 (hs x (List.mem_cons_of_mem _ hx))) with e | e
   ·subst e; exact absurd hx h1
   ·exact e
  ·have := hp.length_eq
   simp at hl this ⊢
   omega
end
theorem sumsB_mem {b : Bk} (hb : BkOk b) {g : Gs} (hg : g ∈ b.1) : sumsB b (nameG g) = g.2 := by
 unfold sumsB
 rcases findN_cases nameG b.1 (nameG g) with ⟨_, h2⟩ | ⟨x, h1, h2, h3⟩
 ·exact absurd rfl (h2 g hg)
 ·rw [h1, name_uniq hb.gs h2 hg h3]; rfl
def stillK (k : ByteArray) : Prop := k = kMove ∨ k = kHold ∨ k = kFree ∨ k = kLot ∨ k = kGoods
theorem addSu_still {k : ByteArray} (h : stillK k) (s : Su) (n : Int) : addSu k s n = s := by
 unfold addSu
 rcases h with h | h | h | h | h <;> subst h <;> (rw [if_neg (by decide), if_neg (by decide), if_neg (by decide), if_neg (by decide)])
theorem still_mem {b : Bk} (hb : BkOk b) {e : En} (hk : stillK e.1) : ∀ g ∈ b.1, g ∈ (doB b e).1.1 := by
 intro g hg
 by_cases h0 : (doB b e).2 = 0
 ·by_cases he : entErr e = 0
  ·by_cases h1 : e.1 = kGoods
   ·rw [doB_goods he h1] at h0 ⊢
    by_cases h0 : goodsE b e.2.1 = 0
    ·rw [if_pos h0]
     exact (insC_perm nameG b.1 _).mem_iff.2 (List.mem_cons_of_mem _ hg)
    ·rw [if_neg h0]; exact hg
   by_cases h2 : e.1 = kLot
   ·rw [doB_lot he h2] at h0 ⊢
    by_cases h0 : lotBE b e.2.2.1 = 0
    ·rw [if_pos h0]; exact hg
    ·rw [if_neg h0]; exact hg
   rcases findI_cases nameL b.2.1 e.2.2.1.1 with ⟨h9, _⟩ | ⟨k, l, hkL, hl, hid⟩
   ·rw [doB_none he h1 h2 (by omega)]; exact hg
   ·obtain ⟨g0, hg0, hg1⟩ := hb.wf.lots l (List.mem_of_getElem? hl)
    rcases findI_cases nameG b.1 l.1.2.1 with ⟨_, h8⟩ | ⟨i, g', hiG, hg', hgn⟩
    ·exact absurd hg1 (h8 g0 hg0)
    ·rw [doB_at he h1 h2 hkL hl hiG hg']
     by_cases h0 : pieceE b e l g' = 0
     ·rw [if_pos h0]
      show g ∈ b.1.set i (g'.1, addSu e.1 g'.2 e.2.2.2.2.2)
      rw [addSu_still hk]
      obtain ⟨hi, e9⟩ := List.getElem?_eq_some_iff.1 hg'
      have : b.1.set i (g'.1, g'.2) = b.1 := by rw [← e9]; exact List.set_getElem_self hi
      rw [this]; exact hg
     ·rw [if_neg h0]; exact hg
  ·rw [doB_err he]; exact hg
 ·rw [doB_same hb h0]; exact hg
theorem still_sums {b : Bk} {e : En} (hb : BkOk b) (hb' : BkOk (doB b e).1) (hk : stillK e.1) {g : Gs} (hg : g ∈ b.1) : sumsB (doB b e).1 (nameG g) = sumsB b (nameG g) := by
 rw [sumsB_mem hb hg, sumsB_mem hb' (still_mem hb hk g hg)]
theorem still_has {b : Bk} {e : En} (hb : BkOk b) (hp : Pac b) (hk : stillK e.1) {g : Gs} (hg : g ∈ b.1) : hasL (doB b e).1.2.2 (nameG g) (doB b e).1.2.1 = hasL b.2.2 (nameG g) b.2.1 := by
 rw [hp.sums g hg, (Pac.do_ hb hp e).sums g (still_mem hb hk g hg)]
def gdsB (b : Bk) : List Gd := b.1.map (·.1)
def susB (b : Bk) : List (ByteArray × Su) := b.1.map fun g => (g.1.1, g.2)
def losB (b : Bk) : List Lo := b.2.1.map (·.1)
def hesB (b : Bk) : List (ByteArray × Int) := b.2.1.map fun l => (l.1.1, l.2)
theorem gs_eq : ∀ {m m' : List Gs}, m.map (·.1) = m'.map (·.1) → m.map (fun g => (g.1.1, g.2)) = m'.map (fun g => (g.1.1, g.2)) → m = m'
 | [], [], _, _ => rfl
 | [], b :: m', h, _ => by simp at h
 | a :: m, [], h, _ => by simp at h
 | a :: m, b :: m', h, h' => by
  rw [List.map_cons, List.map_cons] at h h'
  obtain ⟨e1, e2⟩ := List.cons.inj h
  obtain ⟨e3, e4⟩ := List.cons.inj h'
  rw [gs_eq e2 e4]
  have : a.2 = b.2 := (Prod.mk.inj e3).2
  obtain ⟨a1, a2⟩ := a
  obtain ⟨b1, b2⟩ := b
  simp only at e1 this
  rw [e1, this]
theorem ls_eq : ∀ {m m' : List Lh}, m.map (·.1) = m'.map (·.1) → m.map (fun g => (g.1.1, g.2)) = m'.map (fun g => (g.1.1, g.2)) → m = m'
 | [], [], _, _ => rfl
 | [], b :: m', h, _ => by simp at h
 | a :: m, [], h, _ => by simp at h
 | a :: m, b :: m', h, h' => by
  rw [List.map_cons, List.map_cons] at h h'
  obtain ⟨e1, e2⟩ := List.cons.inj h
  obtain ⟨e3, e4⟩ := List.cons.inj h'
  rw [ls_eq e2 e4]
  have : a.2 = b.2 := (Prod.mk.inj e3).2
  obtain ⟨a1, a2⟩ := a
  obtain ⟨b1, b2⟩ := b
  simp only at e1 this
  rw [e1, this]
theorem bk_same {b b' : Bk} (h : BkOk b) (h' : BkOk b') : ((((gdsB b).Perm (gdsB b') ∧ (susB b).Perm (susB b')) ∧ (losB b).Perm (losB b')) ∧ (hesB b).Perm (hesB b')) ∧ b.2.2 = b'.2.2 ↔ b = b' := by
 constructor
 ·rintro ⟨⟨⟨⟨h1, h2⟩, h3⟩, h4⟩, h5⟩
  have k1 : gdsB b = gdsB b' := ord_perm_eq (f := fun g : Gd => g.1) (List.pairwise_map.2 h.gs) (List.pairwise_map.2 h'.gs) h1
  have k2 : susB b = susB b' := ord_perm_eq (f := fun g : ByteArray × Su => g.1) (List.pairwise_map.2 h.gs) (List.pairwise_map.2 h'.gs) h2
  have k3 : losB b = losB b' := ord_perm_eq (f := fun g : Lo => g.1) (List.pairwise_map.2 h.ls) (List.pairwise_map.2 h'.ls) h3
  have k4 : hesB b = hesB b' := ord_perm_eq (f := fun g : ByteArray × Int => g.1) (List.pairwise_map.2 h.ls) (List.pairwise_map.2 h'.ls) h4
  have e1 := gs_eq k1 k2
  have e2 := ls_eq k3 k4
  obtain ⟨b1, b2, b3⟩ := b
  obtain ⟨c1, c2, c3⟩ := b'
  simp only at e1 e2 h5
  rw [e1, e2, h5]
 ·rintro rfl
  exact ⟨⟨⟨⟨List.Perm.refl _, List.Perm.refl _⟩, List.Perm.refl _⟩, List.Perm.refl _⟩, rfl⟩
end Go.Proofs.YteomomeigbfeoaaGreatDoor
namespace Go.Proofs.YteomomeigbfeoaaGreatDoor
open Go.RowKit Go.Lib Go.Sort
structure Dw (w W : World) (B q : Nat) (b : Bk) (e : En) : Prop where
 below : Below w.heap.size w W
 book : RefB W B q b
 ent : BlkE W w.heap.size e
theorem Dw.go {w W W' : World} {B q : Nat} {b : Bk} {e : En} (h : Dw w W B q b e) (hb : Below W.heap.size W W') : Dw w W' B q b e := ⟨h.below.trans (hb.mono h.below.size), h.book.below hb, h.ent.below hb⟩
theorem Dw.new {w : World} {B q : Nat} {b : Bk} (h : RefB w B q b) (e : En) : Dw w (w.alloc (celE e)) B q b e :=
 ⟨(Below.refl _ w).alloc (Nat.le_refl _) _, h.below ((Below.refl _ w).alloc (Nat.le_refl _) _), BlkE.new w e⟩
theorem Below.base {B : Nat} {w w' : World} (h : Below w.heap.size w w') (hB : B ≤ w.heap.size) : Below B w w' := h.mono hB
def refT (T : TypeId) : Prop := T = 88 ∨ T = 123 ∨ T = 125
structure Turn (B : Nat) (w W : World) : Prop where
 below : Below B w W
 keeps : ∀ k, k < w.heap.size → W.heap[k]? = w.heap[k]? ∨ ∃ c f c' f' T, refT T ∧ w.heap[k]? = some (.cells c T f) ∧ W.heap[k]? = some (.cells c' T f')
theorem Turn.of {B : Nat} {w W : World} (h : Below w.heap.size w W) (hB : B ≤ w.heap.size) : Turn B w W := ⟨h.mono hB, fun k hk => Or.inl (h.block k hk)⟩
theorem Turn.trans {B : Nat} {w W W' : World} (h : Turn B w W) (h' : Turn B W W') : Turn B w W' := by
 refine ⟨h.below.trans h'.below, fun k hk => ?_⟩
 rcases h.keeps k hk with e | ⟨c, f, c', f', T, hT, e1, e2⟩
 ·rcases h'.keeps k (Nat.lt_of_lt_of_le hk h.below.size) with e' | ⟨c, f, c', f', T, hT, e1, e2⟩
  ·exact Or.inl (e'.trans e)
  ·exact Or.inr ⟨c, f, c', f', T, hT, e ▸ e1, e2⟩
 ·rcases h'.keeps k (Nat.lt_of_lt_of_le hk h.below.size) with e' | ⟨d, g, d', g', T', hT', e3, e4⟩
  ·exact Or.inr ⟨c, f, c', f', T, hT, e1, e'.trans e2⟩
  ·rw [e2] at e3
   injection e3 with e3
   injection e3 with _ e5 _
   subst e5
   exact Or.inr ⟨c, f, d', g', T, hT, e1, e4⟩
theorem Turn.drew {B : Nat} {w W : World} (h : Turn B w W) : Turn B w W.drew := ⟨h.below.drew, h.keeps⟩
theorem Turn.set {B : Nat} {w W : World} (h : Turn B w W) {g o : Nat} {c : Array Value} {T : TypeId} (hB : B ≤ g) (hT : refT T) (hg : W.heap[g]? = some (.cells c T (0, 0))) (v : Value) : Turn B w (W.setCell ⟨g, o, none⟩ v) := by
 refine ⟨h.below.setCell (p := ⟨g, o, none⟩) hB v, fun k hk => ?_⟩
 by_cases e : k = g
 ·subst e
  have hn : (W.setCell ⟨k, o, none⟩ v).heap[k]? = some (.cells (c.setIfInBounds o v) T (0, 0)) := Joins.block_setCell hg v
  rcases h.keeps k hk with e | ⟨d, f, d', f', T', hT', e1, e2⟩
  ·exact Or.inr ⟨c, _, _, _, T, hT, e ▸ hg, hn⟩
  ·rw [hg] at e2
   injection e2 with e2
   injection e2 with _ e5 _
   subst e5
   exact Or.inr ⟨d, f, _, _, T, hT, e1, hn⟩
 ·rw [Below.heap_setCell W ⟨g, o, none⟩ v k e]
  exact h.keeps k hk
theorem RefB.slices {w : World} {B q : Nat} {b : Bk} (h : RefB w B q b) : ∃ aG cG aL cL vS, w.cell? ⟨q, 0, none⟩ = some (.slice aG b.1.length cG) ∧ w.cell? ⟨q, 1, none⟩ = some (.slice aL b.2.1.length cL) ∧ w.cell? ⟨q, 2, none⟩ = some vS ∧ q < w.heap.size := by
 obtain ⟨vG, vL, vS, h1, h2, h3, h4, h5⟩ := h
 have f : ∀ {α : Type} {E : Enc α} {B : Nat} {T : TypeId} {v : Value} {m : List α}, E.Row w B T v m → ∃ a c, v = .slice a m.length c := fun hr => by
  rcases hr.forms with ⟨rfl, rfl⟩ | ⟨g, cap, rfl, _⟩
  ·exact ⟨none, 0, rfl⟩
  ·exact ⟨_, _, rfl⟩
 obtain ⟨aG, cG, rfl⟩ := f h2
 obtain ⟨aL, cL, rfl⟩ := f h3
 exact ⟨aG, cG, aL, cL, vS, by rw [cell_of_heap h1]; rfl, by rw [cell_of_heap h1]; rfl, by rw [cell_of_heap h1]; rfl, (Array.getElem?_eq_some_iff.1 h1).1⟩
theorem do_err (w : World) (B q : Nat) (b : Bk) (e : En) (h : RefB w B q b) (hz : SzE e) (he : entErr e ≠ 0) :
  Calls Tryz.prog 40 #[.pointer (some ⟨q, 0, none⟩), agE e] w fun r w' => r = .returned (.int .i64 (entErr e : Int)) ∧ RefB w' B q b ∧ Below w.heap.size w w' := by
 have hD := Dw.new h e
 have hC := terr_any e (w.alloc (celE e)) hz
 have hp : (0 : Int) < (entErr e : Int) := by omega
 generalize (entErr e : Int) = E at *
 clear he
 clear hz h
 obtain ⟨ak, ⟨agc, agp⟩, ⟨ali, alc, alu, alk⟩, ⟨afz, afr, afb⟩, ⟨atz, atr, atb⟩, an⟩ := e
 unfold agE celE at *
 simp only at *
 have HC : Hid (Calls Tryz.prog 82 _ _ _) := hC
 have HD : Hid (Dw _ _ _ _ _ _) := hD
 clear hC hD
 go_enter Tryz.func40, Tryz.ntmps40
 go_wp2_with (first
  | (go_at_call 82; refine HC.out.mono ?_; rintro r w1 ⟨rfl, hb1⟩; have h1 := HD.out.go hb1; obtain ⟨c0, c1, c2, c3, c4, c5, c6, c7, c8, c9, c10, c11, c12, c13⟩ := h1.ent.at; simp only at c0 c1 c2 c3 c4 c5 c6 c7 c8 c9 c10 c11 c12 c13; obtain ⟨aG, cG, aL, cL, vS, s0, s1, s2, sq⟩ := h1.book.slices; have H1 : Hid (Dw _ _ _ _ _ _) := h1; clear hb1 h1))
 go_ret
 exact ⟨rfl, H1.out.book, H1.out.below⟩
theorem do_goods_exist (w : World) (B q : Nat) (b : Bk) (e : En) (h : RefB w B q b) (hz : SzE e) (hw : WfB b) (he : entErr e = 0) (hk : e.1 = kGoods) (h0 : 0 ≤ findI nameG b.1 e.2.1.1) :
  Calls Tryz.prog 40 #[.pointer (some ⟨q, 0, none⟩), agE e] w fun r w' => r = .returned (.int .i64 7) ∧ RefB w' B q b ∧ Below w.heap.size w w' := by
 have hD := Dw.new h e
 have hC := terr_any e (w.alloc (celE e)) hz
 have HF : Hid (∀ W, RefB W B q b → Calls Tryz.prog 27 #[.pointer (some ⟨q, 0, none⟩), .string e.2.1.1] W fun r w' => r = .returned (.int .i64 (findI nameG b.1 e.2.1.1)) ∧ w' = W) := fun W hW => findG_any W B q b e.2.1.1 hW (by have := hw.gl; omega)
 rw [he] at hC
 have e1 : (e.1.toList == kGoods.data.toList) = true := same_wordR hk
 generalize findI nameG b.1 e.2.1.1 = F at *
 clear he hk hw
 clear hz h
 obtain ⟨ak, ⟨agc, agp⟩, ⟨ali, alc, alu, alk⟩, ⟨afz, afr, afb⟩, ⟨atz, atr, atb⟩, an⟩ := e
 unfold agE celE at *
 simp only at *
 have HC : Hid (Calls Tryz.prog 82 _ _ _) := hC
 have HD : Hid (Dw _ _ _ _ _ _) := hD
 clear hC hD
 go_enter Tryz.func40, Tryz.ntmps40
 go_wp2_with (first
  | (go_at_call 82; refine HC.out.mono ?_; rintro r w1 ⟨rfl, hb1⟩; have h1 := HD.out.go hb1; obtain ⟨c0, c1, c2, c3, c4, c5, c6, c7, c8, c9, c10, c11, c12, c13⟩ := h1.ent.at; simp only at c0 c1 c2 c3 c4 c5 c6 c7 c8 c9 c10 c11 c12 c13; obtain ⟨aG, cG, aL, cL, vS, s0, s1, s2, sq⟩ := h1.book.slices; have H1 : Hid (Dw _ _ _ _ _ _) := h1; clear hb1 h1)
  | (go_at_call 27; refine (HF.out _ H1.out.book).mono ?_; rintro r w2 ⟨rfl, hw⟩; have hw' := hw.symm; subst hw'))
 go_ret
 exact ⟨rfl, H1.out.book, H1.out.below⟩
theorem do_goods_full (w : World) (B q : Nat) (b : Bk) (e : En) (h : RefB w B q b) (hz : SzE e) (hw : WfB b) (he : entErr e = 0) (hk : e.1 = kGoods) (h0 : findI nameG b.1 e.2.1.1 < 0) (h1 : 30 ≤ b.1.length) :
  Calls Tryz.prog 40 #[.pointer (some ⟨q, 0, none⟩), agE e] w fun r w' => r = .returned (.int .i64 8) ∧ RefB w' B q b ∧ Below w.heap.size w w' := by
 have hD := Dw.new h e
 have hC := terr_any e (w.alloc (celE e)) hz
 have HF : Hid (∀ W, RefB W B q b → Calls Tryz.prog 27 #[.pointer (some ⟨q, 0, none⟩), .string e.2.1.1] W fun r w' => r = .returned (.int .i64 (findI nameG b.1 e.2.1.1)) ∧ w' = W) := fun W hW => findG_any W B q b e.2.1.1 hW (by have := hw.gl; omega)
 rw [he] at hC
 have e1 : (e.1.toList == kGoods.data.toList) = true := same_wordR hk
 generalize findI nameG b.1 e.2.1.1 = F at *
 have hl := hw.gl
 have hn : (30 : Int) ≤ (b.1.length : Int) := by omega
 clear he hk hw
 clear hz h
 obtain ⟨ak, ⟨agc, agp⟩, ⟨ali, alc, alu, alk⟩, ⟨afz, afr, afb⟩, ⟨atz, atr, atb⟩, an⟩ := e
 unfold agE celE at *
 simp only at *
 have HC : Hid (Calls Tryz.prog 82 _ _ _) := hC
 have HD : Hid (Dw _ _ _ _ _ _) := hD
 clear hC hD
 go_enter Tryz.func40, Tryz.ntmps40
 go_wp2_with (first
  | (go_at_call 82; refine HC.out.mono ?_; rintro r w1 ⟨rfl, hb1⟩; have h1 := HD.out.go hb1; obtain ⟨c0, c1, c2, c3, c4, c5, c6, c7, c8, c9, c10, c11, c12, c13⟩ := h1.ent.at; simp only at c0 c1 c2 c3 c4 c5 c6 c7 c8 c9 c10 c11 c12 c13; obtain ⟨aG, cG, aL, cL, vS, s0, s1, s2, sq⟩ := h1.book.slices; have H1 : Hid (Dw _ _ _ _ _ _) := h1; clear hb1 h1)
  | (go_at_call 27; refine (HF.out _ H1.out.book).mono ?_; rintro r w2 ⟨rfl, hw⟩; have hw' := hw.symm; subst hw'))
 go_ret
 exact ⟨rfl, H1.out.book, H1.out.below⟩
theorem do_lot_exist (w : World) (B q : Nat) (b : Bk) (e : En) (h : RefB w B q b) (hz : SzE e) (hw : WfB b) (he : entErr e = 0) (hk : e.1 = kLot) (h0 : 0 ≤ findI nameL b.2.1 e.2.2.1.1) :
  Calls Tryz.prog 40 #[.pointer (some ⟨q, 0, none⟩), agE e] w fun r w' => r = .returned (.int .i64 7) ∧ RefB w' B q b ∧ Below w.heap.size w w' := by
 have hD := Dw.new h e
 have hC := terr_any e (w.alloc (celE e)) hz
 have HL : Hid (∀ W, RefB W B q b → Calls Tryz.prog 26 #[.pointer (some ⟨q, 0, none⟩), .string e.2.2.1.1] W fun r w' => r = .returned (.int .i64 (findI nameL b.2.1 e.2.2.1.1)) ∧ w' = W) := fun W hW => findL_any W B q b e.2.2.1.1 hW (by have := hw.ll; omega)
 rw [he] at hC
 have e1 : (e.1.toList == kGoods.data.toList) = false := other_word (by rw [hk]; decide)
 have e2 : (e.1.toList == kLot.data.toList) = true := same_wordR hk
 generalize findI nameL b.2.1 e.2.2.1.1 = F at *
 clear he hk hw
 clear hz h
 obtain ⟨ak, ⟨agc, agp⟩, ⟨ali, alc, alu, alk⟩, ⟨afz, afr, afb⟩, ⟨atz, atr, atb⟩, an⟩ := e
 unfold agE celE at *
 simp only at *
 have HC : Hid (Calls Tryz.prog 82 _ _ _) := hC
 have HD : Hid (Dw _ _ _ _ _ _) := hD
 clear hC hD
 go_enter Tryz.func40, Tryz.ntmps40
 go_wp2_with (first
  | (go_at_call 82; refine HC.out.mono ?_; rintro r w1 ⟨rfl, hb1⟩; have h1 := HD.out.go hb1; obtain ⟨c0, c1, c2, c3, c4, c5, c6, c7, c8, c9, c10, c11, c12, c13⟩ := h1.ent.at; simp only at c0 c1 c2 c3 c4 c5 c6 c7 c8 c9 c10 c11 c12 c13; obtain ⟨aG, cG, aL, cL, vS, s0, s1, s2, sq⟩ := h1.book.slices; have H1 : Hid (Dw _ _ _ _ _ _) := h1; clear hb1 h1)
  | (go_at_call 26; refine (HL.out _ H1.out.book).mono ?_; rintro r w2 ⟨rfl, hw⟩; have hw' := hw.symm; subst hw'))
 go_ret
 exact ⟨rfl, H1.out.book, H1.out.below⟩
theorem do_lot_none (w : World) (B q : Nat) (b : Bk) (e : En) (h : RefB w B q b) (hz : SzE e) (hw : WfB b) (he : entErr e = 0) (hk : e.1 = kLot) (h0 : findI nameL b.2.1 e.2.2.1.1 < 0) (h1 : findI nameG b.1 e.2.2.1.2.1 < 0) :
  Calls Tryz.prog 40 #[.pointer (some ⟨q, 0, none⟩), agE e] w fun r w' => r = .returned (.int .i64 6) ∧ RefB w' B q b ∧ Below w.heap.size w w' := by
 have hD := Dw.new h e
 have hC := terr_any e (w.alloc (celE e)) hz
 have HL : Hid (∀ W, RefB W B q b → Calls Tryz.prog 26 #[.pointer (some ⟨q, 0, none⟩), .string e.2.2.1.1] W fun r w' => r = .returned (.int .i64 (findI nameL b.2.1 e.2.2.1.1)) ∧ w' = W) := fun W hW => findL_any W B q b e.2.2.1.1 hW (by have := hw.ll; omega)
 have HF : Hid (∀ W, RefB W B q b → Calls Tryz.prog 27 #[.pointer (some ⟨q, 0, none⟩), .string e.2.2.1.2.1] W fun r w' => r = .returned (.int .i64 (findI nameG b.1 e.2.2.1.2.1)) ∧ w' = W) := fun W hW => findG_any W B q b e.2.2.1.2.1 hW (by have := hw.gl; omega)
 rw [he] at hC
 have e1 : (e.1.toList == kGoods.data.toList) = false := other_word (by rw [hk]; decide)
 have e2 : (e.1.toList == kLot.data.toList) = true := same_wordR hk
 generalize findI nameL b.2.1 e.2.2.1.1 = F at *
 generalize findI nameG b.1 e.2.2.1.2.1 = F1 at *
 clear he hk hw
 clear hz h
 obtain ⟨ak, ⟨agc, agp⟩, ⟨ali, alc, alu, alk⟩, ⟨afz, afr, afb⟩, ⟨atz, atr, atb⟩, an⟩ := e
 unfold agE celE at *
 simp only at *
 have HC : Hid (Calls Tryz.prog 82 _ _ _) := hC
 have HD : Hid (Dw _ _ _ _ _ _) := hD
 clear hC hD
 go_enter Tryz.func40, Tryz.ntmps40
 go_wp2_with (first
  | (go_at_call 82; refine HC.out.mono ?_; rintro r w1 ⟨rfl, hb1⟩; have h1 := HD.out.go hb1; obtain ⟨c0, c1, c2, c3, c4, c5, c6, c7, c8, c9, c10, c11, c12, c13⟩ := h1.ent.at; simp only at c0 c1 c2 c3 c4 c5 c6 c7 c8 c9 c10 c11 c12 c13; obtain ⟨aG, cG, aL, cL, vS, s0, s1, s2, sq⟩ := h1.book.slices; have H1 : Hid (Dw _ _ _ _ _ _) := h1; clear hb1 h1)
  | (go_at_call 26; refine (HL.out _ H1.out.book).mono ?_; rintro r w2 ⟨rfl, hw⟩; have hw' := hw.symm; subst hw')
  | (go_at_call 27; refine (HF.out _ H1.out.book).mono ?_; rintro r w2 ⟨rfl, hw⟩; have hw' := hw.symm; subst hw'))
 go_ret
 exact ⟨rfl, H1.out.book, H1.out.below⟩
theorem do_lot_full (w : World) (B q : Nat) (b : Bk) (e : En) (h : RefB w B q b) (hz : SzE e) (hw : WfB b) (he : entErr e = 0) (hk : e.1 = kLot) (h0 : findI nameL b.2.1 e.2.2.1.1 < 0) (h1 : 0 ≤ findI nameG b.1 e.2.2.1.2.1) (h2 : 60 ≤ b.2.1.length) :
  Calls Tryz.prog 40 #[.pointer (some ⟨q, 0, none⟩), agE e] w fun r w' => r = .returned (.int .i64 8) ∧ RefB w' B q b ∧ Below w.heap.size w w' := by
 have hD := Dw.new h e
 have hC := terr_any e (w.alloc (celE e)) hz
 have HL : Hid (∀ W, RefB W B q b → Calls Tryz.prog 26 #[.pointer (some ⟨q, 0, none⟩), .string e.2.2.1.1] W fun r w' => r = .returned (.int .i64 (findI nameL b.2.1 e.2.2.1.1)) ∧ w' = W) := fun W hW => findL_any W B q b e.2.2.1.1 hW (by have := hw.ll; omega)
 have HF : Hid (∀ W, RefB W B q b → Calls Tryz.prog 27 #[.pointer (some ⟨q, 0, none⟩), .string e.2.2.1.2.1] W fun r w' => r = .returned (.int .i64 (findI nameG b.1 e.2.2.1.2.1)) ∧ w' = W) := fun W hW => findG_any W B q b e.2.2.1.2.1 hW (by have := hw.gl; omega)
 rw [he] at hC
 have e1 : (e.1.toList == kGoods.data.toList) = false := other_word (by rw [hk]; decide)
 have e2 : (e.1.toList == kLot.data.toList) = true := same_wordR hk
 generalize findI nameL b.2.1 e.2.2.1.1 = F at *
 generalize findI nameG b.1 e.2.2.1.2.1 = F1 at *
 have hl := hw.ll
 have hn : (60 : Int) ≤ (b.2.1.length : Int) := by omega
 clear he hk hw
 clear hz h
 obtain ⟨ak, ⟨agc, agp⟩, ⟨ali, alc, alu, alk⟩, ⟨afz, afr, afb⟩, ⟨atz, atr, atb⟩, an⟩ := e
 unfold agE celE at *
 simp only at *
 have HC : Hid (Calls Tryz.prog 82 _ _ _) := hC
 have HD : Hid (Dw _ _ _ _ _ _) := hD
 clear hC hD
 go_enter Tryz.func40, Tryz.ntmps40
 go_wp2_with (first
  | (go_at_call 82; refine HC.out.mono ?_; rintro r w1 ⟨rfl, hb1⟩; have h1 := HD.out.go hb1; obtain ⟨c0, c1, c2, c3, c4, c5, c6, c7, c8, c9, c10, c11, c12, c13⟩ := h1.ent.at; simp only at c0 c1 c2 c3 c4 c5 c6 c7 c8 c9 c10 c11 c12 c13; obtain ⟨aG, cG, aL, cL, vS, s0, s1, s2, sq⟩ := h1.book.slices; have H1 : Hid (Dw _ _ _ _ _ _) := h1; clear hb1 h1)
  | (go_at_call 26; refine (HL.out _ H1.out.book).mono ?_; rintro r w2 ⟨rfl, hw⟩; have hw' := hw.symm; subst hw')
  | (go_at_call 27; refine (HF.out _ H1.out.book).mono ?_; rintro r w2 ⟨rfl, hw⟩; have hw' := hw.symm; subst hw'))
 go_ret
 exact ⟨rfl, H1.out.book, H1.out.below⟩
theorem do_none (w : World) (B q : Nat) (b : Bk) (e : En) (h : RefB w B q b) (hz : SzE e) (hw : WfB b) (he : entErr e = 0) (hg : e.1 ≠ kGoods) (hl : e.1 ≠ kLot) (h0 : findI nameL b.2.1 e.2.2.1.1 < 0) :
  Calls Tryz.prog 40 #[.pointer (some ⟨q, 0, none⟩), agE e] w fun r w' => r = .returned (.int .i64 6) ∧ RefB w' B q b ∧ Below w.heap.size w w' := by
 have hD := Dw.new h e
 have hC := terr_any e (w.alloc (celE e)) hz
 have HL : Hid (∀ W, RefB W B q b → Calls Tryz.prog 26 #[.pointer (some ⟨q, 0, none⟩), .string e.2.2.1.1] W fun r w' => r = .returned (.int .i64 (findI nameL b.2.1 e.2.2.1.1)) ∧ w' = W) := fun W hW => findL_any W B q b e.2.2.1.1 hW (by have := hw.ll; omega)
 rw [he] at hC
 have e1 : (e.1.toList == kGoods.data.toList) = false := other_word hg
 have e2 : (e.1.toList == kLot.data.toList) = false := other_word hl
 generalize findI nameL b.2.1 e.2.2.1.1 = F at *
 clear he hg hl hw
 clear hz h
 obtain ⟨ak, ⟨agc, agp⟩, ⟨ali, alc, alu, alk⟩, ⟨afz, afr, afb⟩, ⟨atz, atr, atb⟩, an⟩ := e
 unfold agE celE at *
 simp only at *
 have HC : Hid (Calls Tryz.prog 82 _ _ _) := hC
 have HD : Hid (Dw _ _ _ _ _ _) := hD
 clear hC hD
 go_enter Tryz.func40, Tryz.ntmps40
 go_wp2_with (first
  | (go_at_call 82; refine HC.out.mono ?_; rintro r w1 ⟨rfl, hb1⟩; have h1 := HD.out.go hb1; obtain ⟨c0, c1, c2, c3, c4, c5, c6, c7, c8, c9, c10, c11, c12, c13⟩ := h1.ent.at; simp only at c0 c1 c2 c3 c4 c5 c6 c7 c8 c9 c10 c11 c12 c13; obtain ⟨aG, cG, aL, cL, vS, s0, s1, s2, sq⟩ := h1.book.slices; have H1 : Hid (Dw _ _ _ _ _ _) := h1; clear hb1 h1)
  | (go_at_call 26; refine (HL.out _ H1.out.book).mono ?_; rintro r w2 ⟨rfl, hw⟩; have hw' := hw.symm; subst hw'))
 go_ret
 exact ⟨rfl, H1.out.book, H1.out.below⟩
end Go.Proofs.YteomomeigbfeoaaGreatDoor
