/-
 What the laws' LongEntries answers of entries that were handed in; nothing old is turned.
-/
import Derived.Test.YtppodkkefegbkaaGreatDoorJz12
import Derived.Test.YtppodkkefegbkaaGreatDoorJz21
import Derived.Deep.AppendLies
set_option maxRecDepth 100000
set_option maxHeartbeats 16000000
namespace Go.Proofs.YtppodkkefegbkaaGreatDoor
open Go.RowKit Go.Lib Go.Sort
def longs (l : List En) : Bool := l.any longE
theorem longs_yes {l : List En} {k : Nat} {e : En} (h : l[k]? = some e) (he : longE e = true) : longs l = true := List.any_eq_true.2 ⟨e, List.mem_of_getElem? h, he⟩
theorem longs_no {l : List En} (h : ∀ e ∈ l, longE e = false) : longs l = false := by
 unfold longs
 rw [List.any_eq_false]
 intro e he
 rw [h e he]; decide
theorem takeE_next {l : List En} {k : Nat} {x : En} {P : En → Prop} (hl : l[k]? = some x) (h : ∀ y ∈ l.take k, P y) (h1 : P x) : ∀ y ∈ l.take (k + 1), P y := by
 obtain ⟨hk, e⟩ := List.getElem?_eq_some_iff.1 hl
 rw [List.take_succ_eq_append_getElem hk, e]
 intro y hy
 rcases List.mem_append.1 hy with hy | hy
 ·exact h y hy
 ·obtain rfl : y = x := by simpa using hy
  exact h1
theorem longs_many (ad : Option Addr) (n cap : Nat) (most : Int) (w : World) (h : most < (n : Int)) :
  Calls Tryz.prog 7 #[.slice ad n cap, .int .i64 most] w fun r w' => r = .returned (.int .i64 1) ∧ w' = w := by
 go_enter Tryz.func7, Tryz.ntmps7
 go_wp2
 go_ret
 exact ⟨rfl, rfl⟩
theorem longs_none (ad : Option Addr) (cap : Nat) (most : Int) (w : World) (h : 0 ≤ most) :
  Calls Tryz.prog 7 #[.slice ad 0 cap, .int .i64 most] w fun r w' => r = .returned (.int .i64 0) ∧ w' = w := by
 go_enter Tryz.func7, Tryz.ntmps7
 go_wp2
 refine wp_loop_rounds 1 ?_
 rw [rounds_succ]
 go_wp2
 go_ret
 exact ⟨rfl, rfl⟩
theorem longs_some (l : List En) (bq off cap : Nat) (most : Int) (w : World) (h : Ents w bq off l) (hz : ∀ e ∈ l, SzE e) (hn : (l.length : Int) ≤ most) (hm : most ≤ 1000) :
  Calls Tryz.prog 7 #[.slice (some ⟨bq, off, none⟩) l.length cap, .int .i64 most] w fun r w' => r = .returned (.int .i64 (if longs l then 1 else 0)) ∧ Below w.heap.size w w' := by
 have HE : Hid (Ents w bq off l) := h
 have HZ : Hid (∀ e ∈ l, SzE e) := hz
 generalize hln : l.length = ln at *
 have HN : Hid (ln = l.length) := hln.symm
 clear h hz hln
 generalize hR : (if longs l = true then (1 : Int) else 0) = R at *
 have HR : Hid ((if longs l = true then (1 : Int) else 0) = R) := hR
 clear hR
 go_enter Tryz.func7, Tryz.ntmps7
 go_wp2
 go_loopw [5] (fun i wr => ∃ k : Nat, k ≤ ln ∧ i = .int .i64 k ∧ Below w.heap.size w wr ∧ ∀ e ∈ l.take k, longE e = false) (fun i _ => ln - (RowKit.intOf i).toNat)
 case atStart => exact ⟨0, Nat.zero_le _, rfl, Below.refl _ _, by simp⟩
 case round =>
  obtain ⟨k, hk, rfl, hwr, hno⟩ := hrel
  have HNo : Hid (∀ e ∈ l.take k, longE e = false) := hno
  clear hno
  by_cases hlt : k < ln
  ·have hkm : k < l.length := by rw [← HN.out]; exact hlt
   obtain ⟨e, he⟩ : ∃ e, l[k]? = some e := ⟨_, List.getElem?_eq_getElem hkm⟩
   obtain ⟨c0, c1, c2, c3, c4, c5, c6, c7, c8, c9, c10, c11, c12, c13⟩ := (HE.out.below HE.out.lt hwr).at_ k e he
   have hL := long_any e wr (HZ.out e (List.mem_of_getElem? he))
   have HX : Hid (l[k]? = some e) := he
   clear he hkm
   cases hle : longE e with
   | true =>
    rw [hle, if_pos rfl] at hL
    have H1 : Hid (R = 1) := by show _ = _; rw [← HR.out, if_pos (longs_yes HX.out hle)]
    clear hle HX
    obtain ⟨ak, ⟨agc, agp⟩, ⟨ali, alc, alu, alk⟩, ⟨afz, afr, afb⟩, ⟨atz, atr, atb⟩, an⟩ := e
    unfold agE at hL
    simp only at c0 c1 c2 c3 c4 c5 c6 c7 c8 c9 c10 c11 c12 c13 hL
    have HL : Hid (Calls Tryz.prog 27 _ _ _) := hL
    clear hL
    go_wp2_with (go_at_call 27; refine HL.out.mono ?_; rintro r w3 ⟨rfl, hb3⟩)
    go_ret
    exact ⟨by rw [H1.out]; rfl, hwr.trans (hb3.mono hwr.size)⟩
   | false =>
    rw [hle, if_neg (by decide)] at hL
    have HK : Hid (longE e = false) := hle
    clear hle
    have HNx : Hid (∀ y ∈ l.take (k + 1), longE y = false) := takeE_next HX.out HNo.out HK.out
    clear HX HK
    obtain ⟨ak, ⟨agc, agp⟩, ⟨ali, alc, alu, alk⟩, ⟨afz, afr, afb⟩, ⟨atz, atr, atb⟩, an⟩ := e
    unfold agE at hL
    simp only at c0 c1 c2 c3 c4 c5 c6 c7 c8 c9 c10 c11 c12 c13 hL
    have HL : Hid (Calls Tryz.prog 27 _ _ _) := hL
    clear hL
    go_wp2_with (go_at_call 27; refine HL.out.mono ?_; rintro r w3 ⟨rfl, hb3⟩)
    go_roundw
    case rel => exact ⟨k + 1, by omega, by go_num, hwr.trans (hb3.mono hwr.size), HNx.out⟩
    case measure => simp [RowKit.intOf]; omega
  ·have e : l.take k = l := List.take_of_length_le (by rw [← HN.out]; omega)
   have H0 : Hid (R = 0) := by
    show _ = _
    rw [← HR.out, if_neg]
    rw [longs_no (fun y hy => HNo.out y (by rw [e]; exact hy))]; decide
   clear e
   go_wp2
   go_ret
   exact ⟨by rw [H0.out]; rfl, hwr⟩
structure Dw (w W : World) (B q : Nat) (b : Bk) (e : En) : Prop where
 below : Below w.heap.size w W
 book : RefB W B q b
 ent : BlkE W w.heap.size e
theorem Dw.go {w W W' : World} {B q : Nat} {b : Bk} {e : En} (h : Dw w W B q b e) (hb : Below W.heap.size W W') : Dw w W' B q b e := ⟨h.below.trans (hb.mono h.below.size), h.book.below hb, h.ent.below hb⟩
theorem Dw.new {w : World} {B q : Nat} {b : Bk} (h : RefB w B q b) (e : En) : Dw w (w.alloc (celE e)) B q b e :=
 ⟨(Below.refl _ w).alloc (Nat.le_refl _) _, h.below ((Below.refl _ w).alloc (Nat.le_refl _) _), BlkE.new w e⟩
theorem Below.base {B : Nat} {w w' : World} (h : Below w.heap.size w w') (hB : B ≤ w.heap.size) : Below B w w' := h.mono hB
def refT (T : TypeId) : Prop := T = 78 ∨ T = 120 ∨ T = 131
structure Turn (B : Nat) (w W : World) : Prop where
 below : Below B w W
 keeps : ∀ k, k < w.heap.size → W.heap[k]? = w.heap[k]? ∨ ∃ c f c' f' T, refT T ∧ w.heap[k]? = some (.cells c T f) ∧ W.heap[k]? = some (.cells c' T f')
theorem Turn.of {B : Nat} {w W : World} (h : Below w.heap.size w W) (hB : B ≤ w.heap.size) : Turn B w W := ⟨h.mono hB, fun k hk => Or.inl (h.block k hk)⟩
theorem Turn.trans {B : Nat} {w W W' : World} (h : Turn B w W) (h' : Turn B W W') : Turn B w W' := by
 refine ⟨h.below.trans h'.below, fun k hk => ?_⟩
 rcases h.keeps k hk with e | ⟨c, f, c', f', T, hT, e1, e2⟩
 ·rcases h'.keeps k (Nat.lt_of_lt_of_le hk h.below.size) with e' | ⟨c, f, c', f', T, hT, e1, e2⟩
  ·exact Or.inl (e'.trans e)
  ·exact Or.inr ⟨c, f, c', f', T, hT, e ▸ e1, e2⟩
 ·rcases h'.keeps k (Nat.lt_of_lt_of_le hk h.below.size) with e' | ⟨d, g, d', g', T', hT', e3, e4⟩
  ·exact Or.inr ⟨c, f, c', f', T, hT, e1, e'.trans e2⟩
  ·rw [e2] at e3
   injection e3 with e3
   injection e3 with _ e5 _
   subst e5
   exact Or.inr ⟨c, f, d', g', T, hT, e1, e4⟩
theorem Turn.drew {B : Nat} {w W : World} (h : Turn B w W) : Turn B w W.drew := ⟨h.below.drew, h.keeps⟩
theorem Turn.set {B : Nat} {w W : World} (h : Turn B w W) {g o : Nat} {c : Array Value} {T : TypeId} (hB : B ≤ g) (hT : refT T) (hg : W.heap[g]? = some (.cells c T (0, 0))) (v : Value) : Turn B w (W.setCell ⟨g, o, none⟩ v) := by
 refine ⟨h.below.setCell (p := ⟨g, o, none⟩) hB v, fun k hk => ?_⟩
 by_cases e : k = g
 ·subst e
  have hn : (W.setCell ⟨k, o, none⟩ v).heap[k]? = some (.cells (c.setIfInBounds o v) T (0, 0)) := Joins.block_setCell hg v
  rcases h.keeps k hk with e | ⟨d, f, d', f', T', hT', e1, e2⟩
  ·exact Or.inr ⟨c, _, _, _, T, hT, e ▸ hg, hn⟩
  ·rw [hg] at e2
   injection e2 with e2
   injection e2 with _ e5 _
   subst e5
   exact Or.inr ⟨d, f, _, _, T, hT, e1, hn⟩
 ·rw [Below.heap_setCell W ⟨g, o, none⟩ v k e]
  exact h.keeps k hk
theorem RefB.slices {w : World} {B q : Nat} {b : Bk} (h : RefB w B q b) : ∃ aG cG aL cL vS, w.cell? ⟨q, 0, none⟩ = some (.slice aG b.1.length cG) ∧ w.cell? ⟨q, 1, none⟩ = some (.slice aL b.2.1.length cL) ∧ w.cell? ⟨q, 2, none⟩ = some vS ∧ q < w.heap.size := by
 obtain ⟨vG, vL, vS, h1, h2, h3, h4, h5⟩ := h
 have f : ∀ {α : Type} {E : Enc α} {B : Nat} {T : TypeId} {v : Value} {m : List α}, E.Row w B T v m → ∃ a c, v = .slice a m.length c := fun hr => by
  rcases hr.forms with ⟨rfl, rfl⟩ | ⟨g, cap, rfl, _⟩
  ·exact ⟨none, 0, rfl⟩
  ·exact ⟨_, _, rfl⟩
 obtain ⟨aG, cG, rfl⟩ := f h2
 obtain ⟨aL, cL, rfl⟩ := f h3
 exact ⟨aG, cG, aL, cL, vS, by rw [cell_of_heap h1]; rfl, by rw [cell_of_heap h1]; rfl, by rw [cell_of_heap h1]; rfl, (Array.getElem?_eq_some_iff.1 h1).1⟩
theorem do_err (w : World) (B q : Nat) (b : Bk) (e : En) (h : RefB w B q b) (hz : SzE e) (he : entErr e ≠ 0) :
  Calls Tryz.prog 29 #[.pointer (some ⟨q, 0, none⟩), agE e] w fun r w' => r = .returned (.int .i64 (entErr e : Int)) ∧ RefB w' B q b ∧ Below w.heap.size w w' := by
 have hD := Dw.new h e
 have hC := terr_any e (w.alloc (celE e)) hz
 have hp : (0 : Int) < (entErr e : Int) := by omega
 generalize (entErr e : Int) = E at *
 clear he
 clear hz h
 obtain ⟨ak, ⟨agc, agp⟩, ⟨ali, alc, alu, alk⟩, ⟨afz, afr, afb⟩, ⟨atz, atr, atb⟩, an⟩ := e
 unfold agE celE at *
 simp only at *
 have HC : Hid (Calls Tryz.prog 60 _ _ _) := hC
 have HD : Hid (Dw _ _ _ _ _ _) := hD
 clear hC hD
 go_enter Tryz.func29, Tryz.ntmps29
 go_wp2_with (first
  | (go_at_call 60; refine HC.out.mono ?_; rintro r w1 ⟨rfl, hb1⟩; have h1 := HD.out.go hb1; obtain ⟨c0, c1, c2, c3, c4, c5, c6, c7, c8, c9, c10, c11, c12, c13⟩ := h1.ent.at; simp only at c0 c1 c2 c3 c4 c5 c6 c7 c8 c9 c10 c11 c12 c13; obtain ⟨aG, cG, aL, cL, vS, s0, s1, s2, sq⟩ := h1.book.slices; have H1 : Hid (Dw _ _ _ _ _ _) := h1; clear hb1 h1))
 go_ret
 exact ⟨rfl, H1.out.book, H1.out.below⟩
theorem do_goods_exist (w : World) (B q : Nat) (b : Bk) (e : En) (h : RefB w B q b) (hz : SzE e) (hw : WfB b) (he : entErr e = 0) (hk : e.1 = kGoods) (h0 : 0 ≤ findI nameG b.1 e.2.1.1) :
  Calls Tryz.prog 29 #[.pointer (some ⟨q, 0, none⟩), agE e] w fun r w' => r = .returned (.int .i64 7) ∧ RefB w' B q b ∧ Below w.heap.size w w' := by
 have hD := Dw.new h e
 have hC := terr_any e (w.alloc (celE e)) hz
 have HF : Hid (∀ W, RefB W B q b → Calls Tryz.prog 61 #[.pointer (some ⟨q, 0, none⟩), .string e.2.1.1] W fun r w' => r = .returned (.int .i64 (findI nameG b.1 e.2.1.1)) ∧ w' = W) := fun W hW => findG_any W B q b e.2.1.1 hW (by have := hw.gl; omega)
 rw [he] at hC
 have e1 : (e.1.toList == kGoods.data.toList) = true := same_wordR hk
 generalize findI nameG b.1 e.2.1.1 = F at *
 clear he hk hw
 clear hz h
 obtain ⟨ak, ⟨agc, agp⟩, ⟨ali, alc, alu, alk⟩, ⟨afz, afr, afb⟩, ⟨atz, atr, atb⟩, an⟩ := e
 unfold agE celE at *
 simp only at *
 have HC : Hid (Calls Tryz.prog 60 _ _ _) := hC
 have HD : Hid (Dw _ _ _ _ _ _) := hD
 clear hC hD
 go_enter Tryz.func29, Tryz.ntmps29
 go_wp2_with (first
  | (go_at_call 60; refine HC.out.mono ?_; rintro r w1 ⟨rfl, hb1⟩; have h1 := HD.out.go hb1; obtain ⟨c0, c1, c2, c3, c4, c5, c6, c7, c8, c9, c10, c11, c12, c13⟩ := h1.ent.at; simp only at c0 c1 c2 c3 c4 c5 c6 c7 c8 c9 c10 c11 c12 c13; obtain ⟨aG, cG, aL, cL, vS, s0, s1, s2, sq⟩ := h1.book.slices; have H1 : Hid (Dw _ _ _ _ _ _) := h1; clear hb1 h1)
  | (go_at_call 61; refine (HF.out _ H1.out.book).mono ?_; rintro r w2 ⟨rfl, hw⟩; have hw' := hw.symm; subst hw'))
 go_ret
 exact ⟨rfl, H1.out.book, H1.out.below⟩
theorem do_goods_full (w : World) (B q : Nat) (b : Bk) (e : En) (h : RefB w B q b) (hz : SzE e) (hw : WfB b) (he : entErr e = 0) (hk : e.1 = kGoods) (h0 : findI nameG b.1 e.2.1.1 < 0) (h1 : 30 ≤ b.1.length) :
  Calls Tryz.prog 29 #[.pointer (some ⟨q, 0, none⟩), agE e] w fun r w' => r = .returned (.int .i64 8) ∧ RefB w' B q b ∧ Below w.heap.size w w' := by
 have hD := Dw.new h e
 have hC := terr_any e (w.alloc (celE e)) hz
 have HF : Hid (∀ W, RefB W B q b → Calls Tryz.prog 61 #[.pointer (some ⟨q, 0, none⟩), .string e.2.1.1] W fun r w' => r = .returned (.int .i64 (findI nameG b.1 e.2.1.1)) ∧ w' = W) := fun W hW => findG_any W B q b e.2.1.1 hW (by have := hw.gl; omega)
 rw [he] at hC
 have e1 : (e.1.toList == kGoods.data.toList) = true := same_wordR hk
 generalize findI nameG b.1 e.2.1.1 = F at *
 have hl := hw.gl
 have hn : (30 : Int) ≤ (b.1.length : Int) := by omega
 clear he hk hw
 clear hz h
 obtain ⟨ak, ⟨agc, agp⟩, ⟨ali, alc, alu, alk⟩, ⟨afz, afr, afb⟩, ⟨atz, atr, atb⟩, an⟩ := e
 unfold agE celE at *
 simp only at *
 have HC : Hid (Calls Tryz.prog 60 _ _ _) := hC
 have HD : Hid (Dw _ _ _ _ _ _) := hD
 clear hC hD
 go_enter Tryz.func29, Tryz.ntmps29
 go_wp2_with (first
  | (go_at_call 60; refine HC.out.mono ?_; rintro r w1 ⟨rfl, hb1⟩; have h1 := HD.out.go hb1; obtain ⟨c0, c1, c2, c3, c4, c5, c6, c7, c8, c9, c10, c11, c12, c13⟩ := h1.ent.at; simp only at c0 c1 c2 c3 c4 c5 c6 c7 c8 c9 c10 c11 c12 c13; obtain ⟨aG, cG, aL, cL, vS, s0, s1, s2, sq⟩ := h1.book.slices; have H1 : Hid (Dw _ _ _ _ _ _) := h1; clear hb1 h1)
  | (go_at_call 61; refine (HF.out _ H1.out.book).mono ?_; rintro r w2 ⟨rfl, hw⟩; have hw' := hw.symm; subst hw'))
 go_ret
 exact ⟨rfl, H1.out.book, H1.out.below⟩
theorem do_lot_exist (w : World) (B q : Nat) (b : Bk) (e : En) (h : RefB w B q b) (hz : SzE e) (hw : WfB b) (he : entErr e = 0) (hk : e.1 = kLot) (h0 : 0 ≤ findI nameL b.2.1 e.2.2.1.1) :
  Calls Tryz.prog 29 #[.pointer (some ⟨q, 0, none⟩), agE e] w fun r w' => r = .returned (.int .i64 7) ∧ RefB w' B q b ∧ Below w.heap.size w w' := by
 have hD := Dw.new h e
 have hC := terr_any e (w.alloc (celE e)) hz
 have HL : Hid (∀ W, RefB W B q b → Calls Tryz.prog 51 #[.pointer (some ⟨q, 0, none⟩), .string e.2.2.1.1] W fun r w' => r = .returned (.int .i64 (findI nameL b.2.1 e.2.2.1.1)) ∧ w' = W) := fun W hW => findL_any W B q b e.2.2.1.1 hW (by have := hw.ll; omega)
 rw [he] at hC
 have e1 : (e.1.toList == kGoods.data.toList) = false := other_word (by rw [hk]; decide)
 have e2 : (e.1.toList == kLot.data.toList) = true := same_wordR hk
 generalize findI nameL b.2.1 e.2.2.1.1 = F at *
 clear he hk hw
 clear hz h
 obtain ⟨ak, ⟨agc, agp⟩, ⟨ali, alc, alu, alk⟩, ⟨afz, afr, afb⟩, ⟨atz, atr, atb⟩, an⟩ := e
 unfold agE celE at *
 simp only at *
 have HC : Hid (Calls Tryz.prog 60 _ _ _) := hC
 have HD : Hid (Dw _ _ _ _ _ _) := hD
 clear hC hD
 go_enter Tryz.func29, Tryz.ntmps29
 go_wp2_with (first
  | (go_at_call 60; refine HC.out.mono ?_; rintro r w1 ⟨rfl, hb1⟩; have h1 := HD.out.go hb1; obtain ⟨c0, c1, c2, c3, c4, c5, c6, c7, c8, c9, c10, c11, c12, c13⟩ := h1.ent.at; simp only at c0 c1 c2 c3 c4 c5 c6 c7 c8 c9 c10 c11 c12 c13; obtain ⟨aG, cG, aL, cL, vS, s0, s1, s2, sq⟩ := h1.book.slices; have H1 : Hid (Dw _ _ _ _ _ _) := h1; clear hb1 h1)
  | (go_at_call 51; refine (HL.out _ H1.out.book).mono ?_; rintro r w2 ⟨rfl, hw⟩; have hw' := hw.symm; subst hw'))
 go_ret
 exact ⟨rfl, H1.out.book, H1.out.below⟩
theorem do_lot_none (w : World) (B q : Nat) (b : Bk) (e : En) (h : RefB w B q b) (hz : SzE e) (hw : WfB b) (he : entErr e = 0) (hk : e.1 = kLot) (h0 : findI nameL b.2.1 e.2.2.1.1 < 0) (h1 : findI nameG b.1 e.2.2.1.2.1 < 0) :
  Calls Tryz.prog 29 #[.pointer (some ⟨q, 0, none⟩), agE e] w fun r w' => r = .returned (.int .i64 6) ∧ RefB w' B q b ∧ Below w.heap.size w w' := by
 have hD := Dw.new h e
 have hC := terr_any e (w.alloc (celE e)) hz
 have HL : Hid (∀ W, RefB W B q b → Calls Tryz.prog 51 #[.pointer (some ⟨q, 0, none⟩), .string e.2.2.1.1] W fun r w' => r = .returned (.int .i64 (findI nameL b.2.1 e.2.2.1.1)) ∧ w' = W) := fun W hW => findL_any W B q b e.2.2.1.1 hW (by have := hw.ll; omega)
 have HF : Hid (∀ W, RefB W B q b → Calls Tryz.prog 61 #[.pointer (some ⟨q, 0, none⟩), .string e.2.2.1.2.1] W fun r w' => r = .returned (.int .i64 (findI nameG b.1 e.2.2.1.2.1)) ∧ w' = W) := fun W hW => findG_any W B q b e.2.2.1.2.1 hW (by have := hw.gl; omega)
 rw [he] at hC
 have e1 : (e.1.toList == kGoods.data.toList) = false := other_word (by rw [hk]; decide)
 have e2 : (e.1.toList == kLot.data.toList) = true := same_wordR hk
 generalize findI nameL b.2.1 e.2.2.1.1 = F at *
 generalize findI nameG b.1 e.2.2.1.2.1 = F1 at *
 clear he hk hw
 clear hz h
 obtain ⟨ak, ⟨agc, agp⟩, ⟨ali, alc, alu, alk⟩, ⟨afz, afr, afb⟩, ⟨atz, atr, atb⟩, an⟩ := e
 unfold agE celE at *
 simp only at *
 have HC : Hid (Calls Tryz.prog 60 _ _ _) := hC
 have HD : Hid (Dw _ _ _ _ _ _) := hD
 clear hC hD
 go_enter Tryz.func29, Tryz.ntmps29
 go_wp2_with (first
  | (go_at_call 60; refine HC.out.mono ?_; rintro r w1 ⟨rfl, hb1⟩; have h1 := HD.out.go hb1; obtain ⟨c0, c1, c2, c3, c4, c5, c6, c7, c8, c9, c10, c11, c12, c13⟩ := h1.ent.at; simp only at c0 c1 c2 c3 c4 c5 c6 c7 c8 c9 c10 c11 c12 c13; obtain ⟨aG, cG, aL, cL, vS, s0, s1, s2, sq⟩ := h1.book.slices; have H1 : Hid (Dw _ _ _ _ _ _) := h1; clear hb1 h1)
  | (go_at_call 51; refine (HL.out _ H1.out.book).mono ?_; rintro r w2 ⟨rfl, hw⟩; have hw' := hw.symm; subst hw')
  | (go_at_call 61; refine (HF.out _ H1.out.book).mono ?_; rintro r w2 ⟨rfl, hw⟩; have hw' := hw.symm; subst hw'))
 go_ret
 exact ⟨rfl, H1.out.book, H1.out.below⟩
theorem do_lot_full (w : World) (B q : Nat) (b : Bk) (e : En) (h : RefB w B q b) (hz : SzE e) (hw : WfB b) (he : entErr e = 0) (hk : e.1 = kLot) (h0 : findI nameL b.2.1 e.2.2.1.1 < 0) (h1 : 0 ≤ findI nameG b.1 e.2.2.1.2.1) (h2 : 60 ≤ b.2.1.length) :
  Calls Tryz.prog 29 #[.pointer (some ⟨q, 0, none⟩), agE e] w fun r w' => r = .returned (.int .i64 8) ∧ RefB w' B q b ∧ Below w.heap.size w w' := by
 have hD := Dw.new h e
 have hC := terr_any e (w.alloc (celE e)) hz
 have HL : Hid (∀ W, RefB W B q b → Calls Tryz.prog 51 #[.pointer (some ⟨q, 0, none⟩), .string e.2.2.1.1] W fun r w' => r = .returned (.int .i64 (findI nameL b.2.1 e.2.2.1.1)) ∧ w' = W) := fun W hW => findL_any W B q b e.2.2.1.1 hW (by have := hw.ll; omega)
 have HF : Hid (∀ W, RefB W B q b → Calls Tryz.prog 61 #[.pointer (some ⟨q, 0, none⟩), .string e.2.2.1.2.1] W fun r w' => r = .returned (.int .i64 (findI nameG b.1 e.2.2.1.2.1)) ∧ w' = W) := fun W hW => findG_any W B q b e.2.2.1.2.1 hW (by have := hw.gl; omega)
 rw [he] at hC
 have e1 : (e.1.toList == kGoods.data.toList) = false := other_word (by rw [hk]; decide)
 have e2 : (e.1.toList == kLot.data.toList) = true := same_wordR hk
 generalize findI nameL b.2.1 e.2.2.1.1 = F at *
 generalize findI nameG b.1 e.2.2.1.2.1 = F1 at *
 have hl := hw.ll
 have hn : (60 : Int) ≤ (b.2.1.length : Int) := by omega
 clear he hk hw
 clear hz h
 obtain ⟨ak, ⟨agc, agp⟩, ⟨ali, alc, alu, alk⟩, ⟨afz, afr, afb⟩, ⟨atz, atr, atb⟩, an⟩ := e
 unfold agE celE at *
 simp only at *
 have HC : Hid (Calls Tryz.prog 60 _ _ _) := hC
 have HD : Hid (Dw _ _ _ _ _ _) := hD
 clear hC hD
 go_enter Tryz.func29, Tryz.ntmps29
 go_wp2_with (first
  | (go_at_call 60; refine HC.out.mono ?_; rintro r w1 ⟨rfl, hb1⟩; have h1 := HD.out.go hb1; obtain ⟨c0, c1, c2, c3, c4, c5, c6, c7, c8, c9, c10, c11, c12, c13⟩ := h1.ent.at; simp only at c0 c1 c2 c3 c4 c5 c6 c7 c8 c9 c10 c11 c12 c13; obtain ⟨aG, cG, aL, cL, vS, s0, s1, s2, sq⟩ := h1.book.slices; have H1 : Hid (Dw _ _ _ _ _ _) := h1; clear hb1 h1)
  | (go_at_call 51; refine (HL.out _ H1.out.book).mono ?_; rintro r w2 ⟨rfl, hw⟩; have hw' := hw.symm; subst hw')
  | (go_at_call 61; refine (HF.out _ H1.out.book).mono ?_; rintro r w2 ⟨rfl, hw⟩; have hw' := hw.symm; subst hw'))
 go_ret
 exact ⟨rfl, H1.out.book, H1.out.below⟩
theorem do_none (w : World) (B q : Nat) (b : Bk) (e : En) (h : RefB w B q b) (hz : SzE e) (hw : WfB b) (he : entErr e = 0) (hg : e.1 ≠ kGoods) (hl : e.1 ≠ kLot) (h0 : findI nameL b.2.1 e.2.2.1.1 < 0) :
  Calls Tryz.prog 29 #[.pointer (some ⟨q, 0, none⟩), agE e] w fun r w' => r = .returned (.int .i64 6) ∧ RefB w' B q b ∧ Below w.heap.size w w' := by
 have hD := Dw.new h e
 have hC := terr_any e (w.alloc (celE e)) hz
 have HL : Hid (∀ W, RefB W B q b → Calls Tryz.prog 51 #[.pointer (some ⟨q, 0, none⟩), .string e.2.2.1.1] W fun r w' => r = .returned (.int .i64 (findI nameL b.2.1 e.2.2.1.1)) ∧ w' = W) := fun W hW => findL_any W B q b e.2.2.1.1 hW (by have := hw.ll; omega)
 rw [he] at hC
 have e1 : (e.1.toList == kGoods.data.toList) = false := other_word hg
 have e2 : (e.1.toList == kLot.data.toList) = false := other_word hl
 generalize findI nameL b.2.1 e.2.2.1.1 = F at *
 clear he hg hl hw
 clear hz h
 obtain ⟨ak, ⟨agc, agp⟩, ⟨ali, alc, alu, alk⟩, ⟨afz, afr, afb⟩, ⟨atz, atr, atb⟩, an⟩ := e
 unfold agE celE at *
 simp only at *
 have HC : Hid (Calls Tryz.prog 60 _ _ _) := hC
 have HD : Hid (Dw _ _ _ _ _ _) := hD
 clear hC hD
 go_enter Tryz.func29, Tryz.ntmps29
 go_wp2_with (first
  | (go_at_call 60; refine HC.out.mono ?_; rintro r w1 ⟨rfl, hb1⟩; have h1 := HD.out.go hb1; obtain ⟨c0, c1, c2, c3, c4, c5, c6, c7, c8, c9, c10, c11, c12, c13⟩ := h1.ent.at; simp only at c0 c1 c2 c3 c4 c5 c6 c7 c8 c9 c10 c11 c12 c13; obtain ⟨aG, cG, aL, cL, vS, s0, s1, s2, sq⟩ := h1.book.slices; have H1 : Hid (Dw _ _ _ _ _ _) := h1; clear hb1 h1)
  | (go_at_call 51; refine (HL.out _ H1.out.book).mono ?_; rintro r w2 ⟨rfl, hw⟩; have hw' := hw.symm; subst hw'))
 go_ret
 exact ⟨rfl, H1.out.book, H1.out.below⟩
theorem Tryz.infoGs : (Tryz.prog.info? 120).map (fun i => (i.zero, i.size, i.bytes)) = some (some (.agg #[.string ⟨#[]⟩, .int .i64 0, .int .i64 0, .int .i64 0, .int .i64 0, .int .i64 0]), 6, 56) := by kernel_rfl
theorem Tryz.infoLh : (Tryz.prog.info? 131).map (fun i => (i.zero, i.size, i.bytes)) = some (some (.agg #[.string ⟨#[]⟩, .string ⟨#[]⟩, .int .i64 0, .int .i64 0, .int .i64 0]), 5, 56) := by kernel_rfl
def RefBg (w : World) (B q : Nat) (b : Bk) : Prop := ∃ g cap vL vS, w.heap[q]? = some (.cells #[.slice (some ⟨g, 0, none⟩) b.1.length cap, vL, vS] 78 (0, 0)) ∧ encGs.Row w B 120 (.slice (some ⟨g, 0, none⟩) b.1.length cap) b.1 ∧ encLh.Row w B 131 vL b.2.1 ∧ encLn.Row w 0 48 vS b.2.2 ∧ B ≤ q ∧ b.1.length ≤ cap
def RefBgn (w : World) (B q : Nat) (b : Bk) : Prop := b.1 = [] ∧ ∃ vL vS, w.heap[q]? = some (.cells #[.slice none 0 0, vL, vS] 78 (0, 0)) ∧ encLh.Row w B 131 vL b.2.1 ∧ encLn.Row w 0 48 vS b.2.2 ∧ B ≤ q
def RefBl (w : World) (B q : Nat) (b : Bk) : Prop := ∃ g cap vG vS, w.heap[q]? = some (.cells #[vG, .slice (some ⟨g, 0, none⟩) b.2.1.length cap, vS] 78 (0, 0)) ∧ encLh.Row w B 131 (.slice (some ⟨g, 0, none⟩) b.2.1.length cap) b.2.1 ∧ encGs.Row w B 120 vG b.1 ∧ encLn.Row w 0 48 vS b.2.2 ∧ B ≤ q ∧ b.2.1.length ≤ cap
def RefBln (w : World) (B q : Nat) (b : Bk) : Prop := b.2.1 = [] ∧ ∃ vG vS, w.heap[q]? = some (.cells #[vG, .slice none 0 0, vS] 78 (0, 0)) ∧ encGs.Row w B 120 vG b.1 ∧ encLn.Row w 0 48 vS b.2.2 ∧ B ≤ q
theorem RefB.casesG {w : World} {B q : Nat} {b : Bk} (h : RefB w B q b) : RefBg w B q b ∨ RefBgn w B q b := by
 obtain ⟨vG, vL, vS, h1, h2, h3, h4, h5⟩ := h
 rcases h2.forms with ⟨rfl, h0⟩ | ⟨g, cap, rfl, _, _, hc, _⟩
 ·exact Or.inr ⟨h0, vL, vS, h1, h3, h4, h5⟩
 ·exact Or.inl ⟨g, cap, vL, vS, h1, h2, h3, h4, h5, hc⟩
theorem RefB.casesL {w : World} {B q : Nat} {b : Bk} (h : RefB w B q b) : RefBl w B q b ∨ RefBln w B q b := by
 obtain ⟨vG, vL, vS, h1, h2, h3, h4, h5⟩ := h
 rcases h3.forms with ⟨rfl, h0⟩ | ⟨g, cap, rfl, _, _, hc, _⟩
 ·exact Or.inr ⟨h0, vG, vS, h1, h2, h4, h5⟩
 ·exact Or.inl ⟨g, cap, vG, vS, h1, h3, h2, h4, h5, hc⟩
theorem RefBg.below {w w' : World} {B q : Nat} {b : Bk} (h : RefBg w B q b) (hb : Below w.heap.size w w') : RefBg w' B q b := by
 obtain ⟨g, cap, vL, vS, h1, h2, h3, h4, h5, h6⟩ := h
 exact ⟨g, cap, vL, vS, (hb.block q (Array.getElem?_eq_some_iff.1 h1).1).trans h1, h2.below hb, h3.below hb, h4.below hb, h5, h6⟩
theorem RefBl.below {w w' : World} {B q : Nat} {b : Bk} (h : RefBl w B q b) (hb : Below w.heap.size w w') : RefBl w' B q b := by
 obtain ⟨g, cap, vL, vS, h1, h2, h3, h4, h5, h6⟩ := h
 exact ⟨g, cap, vL, vS, (hb.block q (Array.getElem?_eq_some_iff.1 h1).1).trans h1, h2.below hb, h3.below hb, h4.below hb, h5, h6⟩
theorem RefBgn.below {w w' : World} {B q : Nat} {b : Bk} (h : RefBgn w B q b) (hb : Below w.heap.size w w') : RefBgn w' B q b := by
 obtain ⟨h0, vL, vS, h1, h3, h4, h5⟩ := h
 exact ⟨h0, vL, vS, (hb.block q (Array.getElem?_eq_some_iff.1 h1).1).trans h1, h3.below hb, h4.below hb, h5⟩
theorem RefBln.below {w w' : World} {B q : Nat} {b : Bk} (h : RefBln w B q b) (hb : Below w.heap.size w w') : RefBln w' B q b := by
 obtain ⟨h0, vL, vS, h1, h3, h4, h5⟩ := h
 exact ⟨h0, vL, vS, (hb.block q (Array.getElem?_eq_some_iff.1 h1).1).trans h1, h3.below hb, h4.below hb, h5⟩
end Go.Proofs.YtppodkkefegbkaaGreatDoor
