/-
 What the reference's Book.Do answers where an entry has an error that is found ahead of the stock; the book is as it was, nothing old is turned.
-/
import Derived.Test.YtppodkkefegbkaaGreatDoorJz11
import Derived.Test.YtppodkkefegbkaaGreatDoorJz20
import Derived.Test.YtppodkkefegbkaaGreatDoorJz13
set_option maxRecDepth 100000
set_option maxHeartbeats 16000000
namespace Go.Proofs.YtppodkkefegbkaaGreatDoor
open Go.RowKit Go.Lib Go.Sort
structure Dw (w W : World) (B q : Nat) (b : Bk) (e : En) : Prop where
 below : Below w.heap.size w W
 book : RefB W B q b
 ent : BlkE W w.heap.size e
theorem Dw.go {w W W' : World} {B q : Nat} {b : Bk} {e : En} (h : Dw w W B q b e) (hb : Below W.heap.size W W') : Dw w W' B q b e := ⟨h.below.trans (hb.mono h.below.size), h.book.below hb, h.ent.below hb⟩
theorem Dw.new {w : World} {B q : Nat} {b : Bk} (h : RefB w B q b) (e : En) : Dw w (w.alloc (celE e)) B q b e :=
 ⟨(Below.refl _ w).alloc (Nat.le_refl _) _, h.below ((Below.refl _ w).alloc (Nat.le_refl _) _), BlkE.new w e⟩
theorem Below.base {B : Nat} {w w' : World} (h : Below w.heap.size w w') (hB : B ≤ w.heap.size) : Below B w w' := h.mono hB
def refT (T : TypeId) : Prop := T = 78 ∨ T = 120 ∨ T = 131
structure Turn (B : Nat) (w W : World) : Prop where
 below : Below B w W
 keeps : ∀ k, k < w.heap.size → W.heap[k]? = w.heap[k]? ∨ ∃ c f c' f' T, refT T ∧ w.heap[k]? = some (.cells c T f) ∧ W.heap[k]? = some (.cells c' T f')
theorem Turn.of {B : Nat} {w W : World} (h : Below w.heap.size w W) (hB : B ≤ w.heap.size) : Turn B w W := ⟨h.mono hB, fun k hk => Or.inl (h.block k hk)⟩
theorem Turn.trans {B : Nat} {w W W' : World} (h : Turn B w W) (h' : Turn B W W') : Turn B w W' := by
 refine ⟨h.below.trans h'.below, fun k hk => ?_⟩
 rcases h.keeps k hk with e | ⟨c, f, c', f', T, hT, e1, e2⟩
 ·rcases h'.keeps k (Nat.lt_of_lt_of_le hk h.below.size) with e' | ⟨c, f, c', f', T, hT, e1, e2⟩
  ·exact Or.inl (e'.trans e)
  ·exact Or.inr ⟨c, f, c', f', T, hT, e ▸ e1, e2⟩
 ·rcases h'.keeps k (Nat.lt_of_lt_of_le hk h.below.size) with e' | ⟨d, g, d', g', T', hT', e3, e4⟩
  ·exact Or.inr ⟨c, f, c', f', T, hT, e1, e'.trans e2⟩
  ·rw [e2] at e3
   injection e3 with e3
   injection e3 with _ e5 _
   subst e5
   exact Or.inr ⟨c, f, d', g', T, hT, e1, e4⟩
theorem Turn.drew {B : Nat} {w W : World} (h : Turn B w W) : Turn B w W.drew := ⟨h.below.drew, h.keeps⟩
theorem Turn.set {B : Nat} {w W : World} (h : Turn B w W) {g o : Nat} {c : Array Value} {T : TypeId} (hB : B ≤ g) (hT : refT T) (hg : W.heap[g]? = some (.cells c T (0, 0))) (v : Value) : Turn B w (W.setCell ⟨g, o, none⟩ v) := by
 refine ⟨h.below.setCell (p := ⟨g, o, none⟩) hB v, fun k hk => ?_⟩
 by_cases e : k = g
 ·subst e
  have hn : (W.setCell ⟨k, o, none⟩ v).heap[k]? = some (.cells (c.setIfInBounds o v) T (0, 0)) := Joins.block_setCell hg v
  rcases h.keeps k hk with e | ⟨d, f, d', f', T', hT', e1, e2⟩
  ·exact Or.inr ⟨c, _, _, _, T, hT, e ▸ hg, hn⟩
  ·rw [hg] at e2
   injection e2 with e2
   injection e2 with _ e5 _
   subst e5
   exact Or.inr ⟨d, f, _, _, T, hT, e1, hn⟩
 ·rw [Below.heap_setCell W ⟨g, o, none⟩ v k e]
  exact h.keeps k hk
theorem RefB.slices {w : World} {B q : Nat} {b : Bk} (h : RefB w B q b) : ∃ aG cG aL cL vS, w.cell? ⟨q, 0, none⟩ = some (.slice aG b.1.length cG) ∧ w.cell? ⟨q, 1, none⟩ = some (.slice aL b.2.1.length cL) ∧ w.cell? ⟨q, 2, none⟩ = some vS ∧ q < w.heap.size := by
 obtain ⟨vG, vL, vS, h1, h2, h3, h4, h5⟩ := h
 have f : ∀ {α : Type} {E : Enc α} {B : Nat} {T : TypeId} {v : Value} {m : List α}, E.Row w B T v m → ∃ a c, v = .slice a m.length c := fun hr => by
  rcases hr.forms with ⟨rfl, rfl⟩ | ⟨g, cap, rfl, _⟩
  ·exact ⟨none, 0, rfl⟩
  ·exact ⟨_, _, rfl⟩
 obtain ⟨aG, cG, rfl⟩ := f h2
 obtain ⟨aL, cL, rfl⟩ := f h3
 exact ⟨aG, cG, aL, cL, vS, by rw [cell_of_heap h1]; rfl, by rw [cell_of_heap h1]; rfl, by rw [cell_of_heap h1]; rfl, (Array.getElem?_eq_some_iff.1 h1).1⟩
theorem do_err (w : World) (B q : Nat) (b : Bk) (e : En) (h : RefB w B q b) (hz : SzE e) (he : entErr e ≠ 0) :
  Calls Tryz.prog 29 #[.pointer (some ⟨q, 0, none⟩), agE e] w fun r w' => r = .returned (.int .i64 (entErr e : Int)) ∧ RefB w' B q b ∧ Below w.heap.size w w' := by
 have hD := Dw.new h e
 have hC := terr_any e (w.alloc (celE e)) hz
 have hp : (0 : Int) < (entErr e : Int) := by omega
 generalize (entErr e : Int) = E at *
 clear he
 clear hz h
 obtain ⟨ak, ⟨agc, agp⟩, ⟨ali, alc, alu, alk⟩, ⟨afz, afr, afb⟩, ⟨atz, atr, atb⟩, an⟩ := e
 unfold agE celE at *
 simp only at *
 have HC : Hid (Calls Tryz.prog 60 _ _ _) := hC
 have HD : Hid (Dw _ _ _ _ _ _) := hD
 clear hC hD
 go_enter Tryz.func29, Tryz.ntmps29
 go_wp2_with (first
  | (go_at_call 60; refine HC.out.mono ?_; rintro r w1 ⟨rfl, hb1⟩; have h1 := HD.out.go hb1; obtain ⟨c0, c1, c2, c3, c4, c5, c6, c7, c8, c9, c10, c11, c12, c13⟩ := h1.ent.at; simp only at c0 c1 c2 c3 c4 c5 c6 c7 c8 c9 c10 c11 c12 c13; obtain ⟨aG, cG, aL, cL, vS, s0, s1, s2, sq⟩ := h1.book.slices; have H1 : Hid (Dw _ _ _ _ _ _) := h1; clear hb1 h1))
 go_ret
 exact ⟨rfl, H1.out.book, H1.out.below⟩
theorem do_goods_exist (w : World) (B q : Nat) (b : Bk) (e : En) (h : RefB w B q b) (hz : SzE e) (hw : WfB b) (he : entErr e = 0) (hk : e.1 = kGoods) (h0 : 0 ≤ findI nameG b.1 e.2.1.1) :
  Calls Tryz.prog 29 #[.pointer (some ⟨q, 0, none⟩), agE e] w fun r w' => r = .returned (.int .i64 7) ∧ RefB w' B q b ∧ Below w.heap.size w w' := by
 have hD := Dw.new h e
 have hC := terr_any e (w.alloc (celE e)) hz
 have HF : Hid (∀ W, RefB W B q b → Calls Tryz.prog 61 #[.pointer (some ⟨q, 0, none⟩), .string e.2.1.1] W fun r w' => r = .returned (.int .i64 (findI nameG b.1 e.2.1.1)) ∧ w' = W) := fun W hW => findG_any W B q b e.2.1.1 hW (by have := hw.gl; omega)
 rw [he] at hC
 have e1 : (e.1.toList == kGoods.data.toList) = true := same_wordR hk
 generalize findI nameG b.1 e.2.1.1 = F at *
 clear he hk hw
 clear hz h
 obtain ⟨ak, ⟨agc, agp⟩, ⟨ali, alc, alu, alk⟩, ⟨afz, afr, afb⟩, ⟨atz, atr, atb⟩, an⟩ := e
 unfold agE celE at *
 simp only at *
 have HC : Hid (Calls Tryz.prog 60 _ _ _) := hC
 have HD : Hid (Dw _ _ _ _ _ _) := hD
 clear hC hD
 go_enter Tryz.func29, Tryz.ntmps29
 go_wp2_with (first
  | (go_at_call 60; refine HC.out.mono ?_; rintro r w1 ⟨rfl, hb1⟩; have h1 := HD.out.go hb1; obtain ⟨c0, c1, c2, c3, c4, c5, c6, c7, c8, c9, c10, c11, c12, c13⟩ := h1.ent.at; simp only at c0 c1 c2 c3 c4 c5 c6 c7 c8 c9 c10 c11 c12 c13; obtain ⟨aG, cG, aL, cL, vS, s0, s1, s2, sq⟩ := h1.book.slices; have H1 : Hid (Dw _ _ _ _ _ _) := h1; clear hb1 h1)
  | (go_at_call 61; refine (HF.out _ H1.out.book).mono ?_; rintro r w2 ⟨rfl, hw⟩; have hw' := hw.symm; subst hw'))
 go_ret
 exact ⟨rfl, H1.out.book, H1.out.below⟩
theorem do_goods_full (w : World) (B q : Nat) (b : Bk) (e : En) (h : RefB w B q b) (hz : SzE e) (hw : WfB b) (he : entErr e = 0) (hk : e.1 = kGoods) (h0 : findI nameG b.1 e.2.1.1 < 0) (h1 : 30 ≤ b.1.length) :
  Calls Tryz.prog 29 #[.pointer (some ⟨q, 0, none⟩), agE e] w fun r w' => r = .returned (.int .i64 8) ∧ RefB w' B q b ∧ Below w.heap.size w w' := by
 have hD := Dw.new h e
 have hC := terr_any e (w.alloc (celE e)) hz
 have HF : Hid (∀ W, RefB W B q b → Calls Tryz.prog 61 #[.pointer (some ⟨q, 0, none⟩), .string e.2.1.1] W fun r w' => r = .returned (.int .i64 (findI nameG b.1 e.2.1.1)) ∧ w' = W) := fun W hW => findG_any W B q b e.2.1.1 hW (by have := hw.gl; omega)
 rw [he] at hC
 have e1 : (e.1.toList == kGoods.data.toList) = true := same_wordR hk
 generalize findI nameG b.1 e.2.1.1 = F at *
 have hl := hw.gl
 have hn : (30 : Int) ≤ (b.1.length : Int) := by omega
 clear he hk hw
 clear hz h
 obtain ⟨ak, ⟨agc, agp⟩, ⟨ali, alc, alu, alk⟩, ⟨afz, afr, afb⟩, ⟨atz, atr, atb⟩, an⟩ := e
 unfold agE celE at *
 simp only at *
 have HC : Hid (Calls Tryz.prog 60 _ _ _) := hC
 have HD : Hid (Dw _ _ _ _ _ _) := hD
 clear hC hD
 go_enter Tryz.func29, Tryz.ntmps29
 go_wp2_with (first
  | (go_at_call 60; refine HC.out.mono ?_; rintro r w1 ⟨rfl, hb1⟩; have h1 := HD.out.go hb1; obtain ⟨c0, c1, c2, c3, c4, c5, c6, c7, c8, c9, c10, c11, c12, c13⟩ := h1.ent.at; simp only at c0 c1 c2 c3 c4 c5 c6 c7 c8 c9 c10 c11 c12 c13; obtain ⟨aG, cG, aL, cL, vS, s0, s1, s2, sq⟩ := h1.book.slices; have H1 : Hid (Dw _ _ _ _ _ _) := h1; clear hb1 h1)
  | (go_at_call 61; refine (HF.out _ H1.out.book).mono ?_; rintro r w2 ⟨rfl, hw⟩; have hw' := hw.symm; subst hw'))
 go_ret
 exact ⟨rfl, H1.out.book, H1.out.below⟩
theorem do_lot_exist (w : World) (B q : Nat) (b : Bk) (e : En) (h : RefB w B q b) (hz : SzE e) (hw : WfB b) (he : entErr e = 0) (hk : e.1 = kLot) (h0 : 0 ≤ findI nameL b.2.1 e.2.2.1.1) :
  Calls Tryz.prog 29 #[.pointer (some ⟨q, 0, none⟩), agE e] w fun r w' => r = .returned (.int .i64 7) ∧ RefB w' B q b ∧ Below w.heap.size w w' := by
 have hD := Dw.new h e
 have hC := terr_any e (w.alloc (celE e)) hz
 have HL : Hid (∀ W, RefB W B q b → Calls Tryz.prog 51 #[.pointer (some ⟨q, 0, none⟩), .string e.2.2.1.1] W fun r w' => r = .returned (.int .i64 (findI nameL b.2.1 e.2.2.1.1)) ∧ w' = W) := fun W hW => findL_any W B q b e.2.2.1.1 hW (by have := hw.ll; omega)
 rw [he] at hC
 have e1 : (e.1.toList == kGoods.data.toList) = false := other_word (by rw [hk]; decide)
 have e2 : (e.1.toList == kLot.data.toList) = true := same_wordR hk
 generalize findI nameL b.2.1 e.2.2.1.1 = F at *
 clear he hk hw
 clear hz h
 obtain ⟨ak, ⟨agc, agp⟩, ⟨ali, alc, alu, alk⟩, ⟨afz, afr, afb⟩, ⟨atz, atr, atb⟩, an⟩ := e
 unfold agE celE at *
 simp only at *
 have HC : Hid (Calls Tryz.prog 60 _ _ _) := hC
 have HD : Hid (Dw _ _ _ _ _ _) := hD
 clear hC hD
 go_enter Tryz.func29, Tryz.ntmps29
 go_wp2_with (first
  | (go_at_call 60; refine HC.out.mono ?_; rintro r w1 ⟨rfl, hb1⟩; have h1 := HD.out.go hb1; obtain ⟨c0, c1, c2, c3, c4, c5, c6, c7, c8, c9, c10, c11, c12, c13⟩ := h1.ent.at; simp only at c0 c1 c2 c3 c4 c5 c6 c7 c8 c9 c10 c11 c12 c13; obtain ⟨aG, cG, aL, cL, vS, s0, s1, s2, sq⟩ := h1.book.slices; have H1 : Hid (Dw _ _ _ _ _ _) := h1; clear hb1 h1)
  | (go_at_call 51; refine (HL.out _ H1.out.book).mono ?_; rintro r w2 ⟨rfl, hw⟩; have hw' := hw.symm; subst hw'))
 go_ret
 exact ⟨rfl, H1.out.book, H1.out.below⟩
theorem do_lot_none (w : World) (B q : Nat) (b : Bk) (e : En) (h : RefB w B q b) (hz : SzE e) (hw : WfB b) (he : entErr e = 0) (hk : e.1 = kLot) (h0 : findI nameL b.2.1 e.2.2.1.1 < 0) (h1 : findI nameG b.1 e.2.2.1.2.1 < 0) :
  Calls Tryz.prog 29 #[.pointer (some ⟨q, 0, none⟩), agE e] w fun r w' => r = .returned (.int .i64 6) ∧ RefB w' B q b ∧ Below w.heap.size w w' := by
 have hD := Dw.new h e
 have hC := terr_any e (w.alloc (celE e)) hz
 have HL : Hid (∀ W, RefB W B q b → Calls Tryz.prog 51 #[.pointer (some ⟨q, 0, none⟩), .string e.2.2.1.1] W fun r w' => r = .returned (.int .i64 (findI nameL b.2.1 e.2.2.1.1)) ∧ w' = W) := fun W hW => findL_any W B q b e.2.2.1.1 hW (by have := hw.ll; omega)
 have HF : Hid (∀ W, RefB W B q b → Calls Tryz.prog 61 #[.pointer (some ⟨q, 0, none⟩), .string e.2.2.1.2.1] W fun r w' => r = .returned (.int .i64 (findI nameG b.1 e.2.2.1.2.1)) ∧ w' = W) := fun W hW => findG_any W B q b e.2.2.1.2.1 hW (by have := hw.gl; omega)
 rw [he] at hC
 have e1 : (e.1.toList == kGoods.data.toList) = false := other_word (by rw [hk]; decide)
 have e2 : (e.1.toList == kLot.data.toList) = true := same_wordR hk
 generalize findI nameL b.2.1 e.2.2.1.1 = F at *
 generalize findI nameG b.1 e.2.2.1.2.1 = F1 at *
 clear he hk hw
 clear hz h
 obtain ⟨ak, ⟨agc, agp⟩, ⟨ali, alc, alu, alk⟩, ⟨afz, afr, afb⟩, ⟨atz, atr, atb⟩, an⟩ := e
 unfold agE celE at *
 simp only at *
 have HC : Hid (Calls Tryz.prog 60 _ _ _) := hC
 have HD : Hid (Dw _ _ _ _ _ _) := hD
 clear hC hD
 go_enter Tryz.func29, Tryz.ntmps29
 go_wp2_with (first
  | (go_at_call 60; refine HC.out.mono ?_; rintro r w1 ⟨rfl, hb1⟩; have h1 := HD.out.go hb1; obtain ⟨c0, c1, c2, c3, c4, c5, c6, c7, c8, c9, c10, c11, c12, c13⟩ := h1.ent.at; simp only at c0 c1 c2 c3 c4 c5 c6 c7 c8 c9 c10 c11 c12 c13; obtain ⟨aG, cG, aL, cL, vS, s0, s1, s2, sq⟩ := h1.book.slices; have H1 : Hid (Dw _ _ _ _ _ _) := h1; clear hb1 h1)
  | (go_at_call 51; refine (HL.out _ H1.out.book).mono ?_; rintro r w2 ⟨rfl, hw⟩; have hw' := hw.symm; subst hw')
  | (go_at_call 61; refine (HF.out _ H1.out.book).mono ?_; rintro r w2 ⟨rfl, hw⟩; have hw' := hw.symm; subst hw'))
 go_ret
 exact ⟨rfl, H1.out.book, H1.out.below⟩
theorem do_lot_full (w : World) (B q : Nat) (b : Bk) (e : En) (h : RefB w B q b) (hz : SzE e) (hw : WfB b) (he : entErr e = 0) (hk : e.1 = kLot) (h0 : findI nameL b.2.1 e.2.2.1.1 < 0) (h1 : 0 ≤ findI nameG b.1 e.2.2.1.2.1) (h2 : 60 ≤ b.2.1.length) :
  Calls Tryz.prog 29 #[.pointer (some ⟨q, 0, none⟩), agE e] w fun r w' => r = .returned (.int .i64 8) ∧ RefB w' B q b ∧ Below w.heap.size w w' := by
 have hD := Dw.new h e
 have hC := terr_any e (w.alloc (celE e)) hz
 have HL : Hid (∀ W, RefB W B q b → Calls Tryz.prog 51 #[.pointer (some ⟨q, 0, none⟩), .string e.2.2.1.1] W fun r w' => r = .returned (.int .i64 (findI nameL b.2.1 e.2.2.1.1)) ∧ w' = W) := fun W hW => findL_any W B q b e.2.2.1.1 hW (by have := hw.ll; omega)
 have HF : Hid (∀ W, RefB W B q b → Calls Tryz.prog 61 #[.pointer (some ⟨q, 0, none⟩), .string e.2.2.1.2.1] W fun r w' => r = .returned (.int .i64 (findI nameG b.1 e.2.2.1.2.1)) ∧ w' = W) := fun W hW => findG_any W B q b e.2.2.1.2.1 hW (by have := hw.gl; omega)
 rw [he] at hC
 have e1 : (e.1.toList == kGoods.data.toList) = false := other_word (by rw [hk]; decide)
 have e2 : (e.1.toList == kLot.data.toList) = true := same_wordR hk
 generalize findI nameL b.2.1 e.2.2.1.1 = F at *
 generalize findI nameG b.1 e.2.2.1.2.1 = F1 at *
 have hl := hw.ll
 have hn : (60 : Int) ≤ (b.2.1.length : Int) := by omega
 clear he hk hw
 clear hz h
 obtain ⟨ak, ⟨agc, agp⟩, ⟨ali, alc, alu, alk⟩, ⟨afz, afr, afb⟩, ⟨atz, atr, atb⟩, an⟩ := e
 unfold agE celE at *
 simp only at *
 have HC : Hid (Calls Tryz.prog 60 _ _ _) := hC
 have HD : Hid (Dw _ _ _ _ _ _) := hD
 clear hC hD
 go_enter Tryz.func29, Tryz.ntmps29
 go_wp2_with (first
  | (go_at_call 60; refine HC.out.mono ?_; rintro r w1 ⟨rfl, hb1⟩; have h1 := HD.out.go hb1; obtain ⟨c0, c1, c2, c3, c4, c5, c6, c7, c8, c9, c10, c11, c12, c13⟩ := h1.ent.at; simp only at c0 c1 c2 c3 c4 c5 c6 c7 c8 c9 c10 c11 c12 c13; obtain ⟨aG, cG, aL, cL, vS, s0, s1, s2, sq⟩ := h1.book.slices; have H1 : Hid (Dw _ _ _ _ _ _) := h1; clear hb1 h1)
  | (go_at_call 51; refine (HL.out _ H1.out.book).mono ?_; rintro r w2 ⟨rfl, hw⟩; have hw' := hw.symm; subst hw')
  | (go_at_call 61; refine (HF.out _ H1.out.book).mono ?_; rintro r w2 ⟨rfl, hw⟩; have hw' := hw.symm; subst hw'))
 go_ret
 exact ⟨rfl, H1.out.book, H1.out.below⟩
theorem do_none (w : World) (B q : Nat) (b : Bk) (e : En) (h : RefB w B q b) (hz : SzE e) (hw : WfB b) (he : entErr e = 0) (hg : e.1 ≠ kGoods) (hl : e.1 ≠ kLot) (h0 : findI nameL b.2.1 e.2.2.1.1 < 0) :
  Calls Tryz.prog 29 #[.pointer (some ⟨q, 0, none⟩), agE e] w fun r w' => r = .returned (.int .i64 6) ∧ RefB w' B q b ∧ Below w.heap.size w w' := by
 have hD := Dw.new h e
 have hC := terr_any e (w.alloc (celE e)) hz
 have HL : Hid (∀ W, RefB W B q b → Calls Tryz.prog 51 #[.pointer (some ⟨q, 0, none⟩), .string e.2.2.1.1] W fun r w' => r = .returned (.int .i64 (findI nameL b.2.1 e.2.2.1.1)) ∧ w' = W) := fun W hW => findL_any W B q b e.2.2.1.1 hW (by have := hw.ll; omega)
 rw [he] at hC
 have e1 : (e.1.toList == kGoods.data.toList) = false := other_word hg
 have e2 : (e.1.toList == kLot.data.toList) = false := other_word hl
 generalize findI nameL b.2.1 e.2.2.1.1 = F at *
 clear he hg hl hw
 clear hz h
 obtain ⟨ak, ⟨agc, agp⟩, ⟨ali, alc, alu, alk⟩, ⟨afz, afr, afb⟩, ⟨atz, atr, atb⟩, an⟩ := e
 unfold agE celE at *
 simp only at *
 have HC : Hid (Calls Tryz.prog 60 _ _ _) := hC
 have HD : Hid (Dw _ _ _ _ _ _) := hD
 clear hC hD
 go_enter Tryz.func29, Tryz.ntmps29
 go_wp2_with (first
  | (go_at_call 60; refine HC.out.mono ?_; rintro r w1 ⟨rfl, hb1⟩; have h1 := HD.out.go hb1; obtain ⟨c0, c1, c2, c3, c4, c5, c6, c7, c8, c9, c10, c11, c12, c13⟩ := h1.ent.at; simp only at c0 c1 c2 c3 c4 c5 c6 c7 c8 c9 c10 c11 c12 c13; obtain ⟨aG, cG, aL, cL, vS, s0, s1, s2, sq⟩ := h1.book.slices; have H1 : Hid (Dw _ _ _ _ _ _) := h1; clear hb1 h1)
  | (go_at_call 51; refine (HL.out _ H1.out.book).mono ?_; rintro r w2 ⟨rfl, hw⟩; have hw' := hw.symm; subst hw'))
 go_ret
 exact ⟨rfl, H1.out.book, H1.out.below⟩
end Go.Proofs.YtppodkkefegbkaaGreatDoor
namespace Go.Proofs.YtppodkkefegbkaaGreatDoor
open Go.Lib Go.Sort
section
variable {α : Type} {f : α → ByteArray}
theorem name_uniq : ∀ {m : List α}, m.Pairwise (fun a b => zLt (f a) (f b) = true) → ∀ {x y : α}, x ∈ m → y ∈ m → f x = f y → x = y
 | [], _, x, y, hx, _, _ => by simp at hx
 | a :: m, h, x, y, hx, hy, e => by
  obtain ⟨h1, h2⟩ := List.pairwise_cons.1 h
  rcases List.mem_cons.1 hx with hx | hx
  ·rcases List.mem_cons.1 hy with hy | hy
   ·exact hx.trans hy.symm
   ·have := h1 y hy
    rw [← hx, e, zLt_irrefl] at this
    cases this
  ·rcases List.mem_cons.1 hy with hy | hy
   ·have := h1 x hx
    rw [← hy, e, zLt_irrefl] at this
    cases this
   ·exact name_uniq h2 hx hy e
end
theorem sumsB_mem {b : Bk} (hb : BkOk b) {g : Gs} (hg : g ∈ b.1) : sumsB b (nameG g) = g.2 := by
 unfold sumsB
 rcases findN_cases nameG b.1 (nameG g) with ⟨_, h2⟩ | ⟨x, h1, h2, h3⟩
 ·exact absurd rfl (h2 g hg)
 ·rw [h1, name_uniq hb.gs h2 hg h3]; rfl
end Go.Proofs.YtppodkkefegbkaaGreatDoor
