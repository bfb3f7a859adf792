/-
 What the reference's Move answers: the lines behind it, and an error's number; nothing old is turned.
-/
import Derived.Test.YtppodkkefegbkaaGreatDoorJz19
set_option maxRecDepth 100000
set_option maxHeartbeats 16000000
namespace Go.Proofs.YtppodkkefegbkaaGreatDoor
open Go.RowKit Go.Lib Go.Sort
abbrev boxM4 (w : World) (v : Value) (x y : Pl) : World := ((boxR w v x).alloc (.cells #[.string y.1, .int .i64 y.2.1, .int .i64 y.2.2] 41)).alloc (.cells #[.slice none 0 0] 76)
structure RefM (w W : World) (v : Value) (x y : Pl) : Prop where
 below : Below w.heap.size w W
 cv : W.cell? ⟨w.heap.size, 0, none⟩ = some v
 bx : BoxAt (w.heap.size + 1) x W
 by_ : BoxAt (w.heap.size + 1 + 1) y W
 res : W.heap[w.heap.size + 1 + 1 + 1]? = some (.cells #[.slice none 0 0] 76 (0, 0))
theorem refM (w : World) (v : Value) (x y : Pl) : RefM w (boxM4 w v x y) v x y := by
 have h0 := boxR_below w v x
 obtain ⟨h1, h2⟩ := boxR_cells w v x
 have s0 : (boxR w v x).heap.size = w.heap.size + 1 + 1 := by simp
 unfold boxM4
 generalize boxR w v x = W0 at *
 have hA : Below W0.heap.size W0 (W0.alloc (.cells #[.string y.1, .int .i64 y.2.1, .int .i64 y.2.2] 41)) := (Below.refl _ _).alloc (Nat.le_refl _) _
 have nA := BoxAt.new W0 y 41 (w.heap.size + 1 + 1) s0.symm
 have sA : (W0.alloc (.cells #[.string y.1, .int .i64 y.2.1, .int .i64 y.2.2] 41)).heap.size = w.heap.size + 1 + 1 + 1 := by simp [s0]
 generalize W0.alloc (.cells #[.string y.1, .int .i64 y.2.1, .int .i64 y.2.2] 41) = W1 at *
 have hC : Below W1.heap.size W1 (W1.alloc (.cells #[.slice none 0 0] 76)) := (Below.refl _ _).alloc (Nat.le_refl _) _
 have nC := heap_alloc_new W1 (.cells #[.slice none 0 0] 76)
 rw [sA] at nC
 have hAC := hA.trans (hC.mono hA.size)
 exact ⟨h0.trans (hAC.mono h0.size), (hAC.cell (p := ⟨w.heap.size, 0, none⟩) (by simp; omega)).trans h1, h2.below hAC, nA.below hC, nC⟩
theorem RefM.later {w W W' : World} {v : Value} {x y : Pl} (h : RefM w W v x y) (hb : Below W.heap.size W W') : RefM w W' v x y :=
 ⟨h.below.trans (hb.mono h.below.size), (hb.cell (p := ⟨w.heap.size, 0, none⟩) (cell_lt h.cv)).trans h.cv, h.bx.below hb, h.by_.below hb, (hb.block _ (Array.getElem?_eq_some_iff.1 h.res).1).trans h.res⟩
theorem RefM.cells {w W : World} {v : Value} {x y : Pl} (h : RefM w W v x y) : W.cell? ⟨w.heap.size + 1 + 1 + 1, 0, none⟩ = some (.slice none 0 0) ∧ W.frozen? ⟨w.heap.size + 1 + 1 + 1, 0, none⟩ = false := ⟨by rw [cell_of_heap h.res]; rfl, frozen_of_heap h.res 0⟩
theorem RefS.put {w : World} {v u u' : Value} {m : List Ln} {q : Nat} (h : RefS w v m) (hq : w.heap[q]? = some (.cells #[u] 76 (0, 0))) : RefS (w.setCell ⟨q, 0, none⟩ u') v m ∧ (w.setCell ⟨q, 0, none⟩ u').heap[q]? = some (.cells #[u'] 76 (0, 0)) := by
 refine ⟨ownsRow_setCell_other h (fun e => ?_) _, by simpa using Joins.block_setCell (i := 0) hq u'⟩
 obtain ⟨c, fz, hc⟩ := ownsRow_kind h _ e
 rw [hc] at hq
 simp at hq
theorem refM_fin {w W wf : World} {v ve : Value} {x y : Pl} {m' : List Ln} (hW : RefM w W v x y) (hb : Below W.heap.size W wf) (hr : RefS wf ve m') : RefS (wf.setCell ⟨w.heap.size + 1 + 1 + 1, 0, none⟩ ve) ve m' ∧ Below w.heap.size w (wf.setCell ⟨w.heap.size + 1 + 1 + 1, 0, none⟩ ve) := by
 have hf := hW.later hb
 exact ⟨(hr.put hf.res).1, hf.below.setCell (p := ⟨w.heap.size + 1 + 1 + 1, 0, none⟩) (by simp; omega) _⟩
theorem refMove_take (v : Value) (m : List Ln) (x y : Pl) (c : ByteArray) (n : Int) (w : World) (h : RefS w v m) (hw : Wf m) (h0 : takeE m (x, c) n ≠ 0) :
  Calls Tryz.prog 64 #[.agg #[v], agP x, agP y, .string c, .int .i64 n] w fun e w' => ∃ v', e = .returned (.tuple #[.agg #[v'], .int .i64 (takeE m (x, c) n)]) ∧ RefS w' v' (m) ∧ Below w.heap.size w w' := by
 obtain ⟨ao, cap, rfl, _⟩ := h.shape
 have hW := refM w (.slice ao m.length cap) x y
 have HFin : Hid (∀ (wf : World) (ve : Value) (m' : List Ln), RefS wf ve m' → Below (boxM4 w (.slice ao m.length cap) x y).heap.size (boxM4 w (.slice ao m.length cap) x y) wf → RefS (wf.setCell ⟨w.heap.size + 1 + 1 + 1, 0, none⟩ ve) ve m' ∧ Below w.heap.size w (wf.setCell ⟨w.heap.size + 1 + 1 + 1, 0, none⟩ ve)) := fun wf ve m' hr hb => refM_fin hW hb hr
 have HR : Hid (∀ wf, Below (boxM4 w (.slice ao m.length cap) x y).heap.size (boxM4 w (.slice ao m.length cap) x y) wf → RefS wf (.slice ao m.length cap) m) := fun wf hb => (h.all hW.below).all hb
 have HK : Hid (∀ wf, Below (boxM4 w (.slice ao m.length cap) x y).heap.size (boxM4 w (.slice ao m.length cap) x y) wf → RefM w wf (.slice ao m.length cap) x y) := fun wf hb => hW.later hb
 have hT := refTake_any _ m x c n (boxM4 w (.slice ao m.length cap) x y) (h.all hW.below) hw
 have hE : ((takeE m (x, c) n : Int) == 0) = false := by simp; omega
 have hE' : (0 : Int) < (takeE m (x, c) n : Int) := by omega
 generalize takeE m (x, c) n = E at *
 obtain ⟨a, r, bb⟩ := x
 obtain ⟨a', r', bb'⟩ := y
 unfold agP boxM4 boxR at *
 simp only at *
 obtain ⟨f0, ⟨p0, p1, p2⟩, s0, s1, s2⟩ : _ ∧ _ ∧ _ := ⟨hW.cv, hW.bx, hW.by_⟩
 obtain ⟨g0, g1⟩ := hW.cells
 simp only at p0 p1 p2 s0 s1 s2
 have HT : Hid (Calls Tryz.prog 63 _ _ _) := hT
 clear hW h hw hT
 generalize hln : m.length = ln at *
 have HLn : Hid (m.length = ln) := hln
 clear hln
 go_enter Tryz.func64, Tryz.ntmps64
 go_wp2_with (go_at_call 63; refine HT.out.mono ?_; rintro e w1 ⟨v1, rfl, hr1, hb1⟩; obtain ⟨ao1, k1, cp1, rfl⟩ := own_sliceN hr1; have hBa := hb1.alloc hb1.size (.cells #[.slice ao1 k1 cp1] 76); obtain ⟨qa0, qa1, qa2⟩ := (HK.out _ hBa).bx; obtain ⟨qb0, qb1, qb2⟩ := (HK.out _ hBa).by_; have qc := (HK.out _ hBa).cv; obtain ⟨qd, qe⟩ := (HK.out _ hBa).cells; simp only at qa0 qa1 qa2 qb0 qb1 qb2)
 refine bodyPost_ret (v := .tuple #[.agg #[(.slice ao ln cap)], .int .i64 E]) (by simp [results, Tryz.results64, go_sem, qd]) rfl ?_
 obtain ⟨r1, r2⟩ := HFin.out _ _ _ (HR.out _ (hBa)) (hBa)
 exact ⟨_, rfl, r1, r2⟩
theorem refMove_place (v : Value) (m : List Ln) (x y : Pl) (c : ByteArray) (n : Int) (w : World) (h : RefS w v m) (hw : Wf m) (hz : y.1.size ≤ maxLen) (t0 : takeE m (x, c) n = 0) (h0 : placeErr y ≠ 0) :
  Calls Tryz.prog 64 #[.agg #[v], agP x, agP y, .string c, .int .i64 n] w fun e w' => ∃ v', e = .returned (.tuple #[.agg #[v'], .int .i64 (placeErr y)]) ∧ RefS w' v' (m) ∧ Below w.heap.size w w' := by
 obtain ⟨ao, cap, rfl, _⟩ := h.shape
 have hW := refM w (.slice ao m.length cap) x y
 have HFin : Hid (∀ (wf : World) (ve : Value) (m' : List Ln), RefS wf ve m' → Below (boxM4 w (.slice ao m.length cap) x y).heap.size (boxM4 w (.slice ao m.length cap) x y) wf → RefS (wf.setCell ⟨w.heap.size + 1 + 1 + 1, 0, none⟩ ve) ve m' ∧ Below w.heap.size w (wf.setCell ⟨w.heap.size + 1 + 1 + 1, 0, none⟩ ve)) := fun wf ve m' hr hb => refM_fin hW hb hr
 have HR : Hid (∀ wf, Below (boxM4 w (.slice ao m.length cap) x y).heap.size (boxM4 w (.slice ao m.length cap) x y) wf → RefS wf (.slice ao m.length cap) m) := fun wf hb => (h.all hW.below).all hb
 have HK : Hid (∀ wf, Below (boxM4 w (.slice ao m.length cap) x y).heap.size (boxM4 w (.slice ao m.length cap) x y) wf → RefM w wf (.slice ao m.length cap) x y) := fun wf hb => hW.later hb
 have hT := refTake_any _ m x c n (boxM4 w (.slice ao m.length cap) x y) (h.all hW.below) hw
 have hP := fun w1 => placeError_any y w1 hz
 rw [t0] at hT
 have hE : ((placeErr y : Int) == 0) = false := by simp; omega
 have hE' : (0 : Int) < (placeErr y : Int) := by omega
 generalize placeErr y = E at *
 obtain ⟨a, r, bb⟩ := x
 obtain ⟨a', r', bb'⟩ := y
 unfold agP boxM4 boxR at *
 simp only at *
 obtain ⟨f0, ⟨p0, p1, p2⟩, s0, s1, s2⟩ : _ ∧ _ ∧ _ := ⟨hW.cv, hW.bx, hW.by_⟩
 obtain ⟨g0, g1⟩ := hW.cells
 simp only at p0 p1 p2 s0 s1 s2
 have HT : Hid (Calls Tryz.prog 63 _ _ _) := hT
 clear hW h hw hT
 generalize hln : m.length = ln at *
 have HLn : Hid (m.length = ln) := hln
 clear hln
 go_enter Tryz.func64, Tryz.ntmps64
 go_wp2_with (first
  | (go_at_call 63; refine HT.out.mono ?_; rintro e w1 ⟨v1, rfl, hr1, hb1⟩; obtain ⟨ao1, k1, cp1, rfl⟩ := own_sliceN hr1; have hBa := hb1.alloc hb1.size (.cells #[.slice ao1 k1 cp1] 76); obtain ⟨qa0, qa1, qa2⟩ := (HK.out _ hBa).bx; obtain ⟨qb0, qb1, qb2⟩ := (HK.out _ hBa).by_; have qc := (HK.out _ hBa).cv; obtain ⟨qd, qe⟩ := (HK.out _ hBa).cells; simp only at qa0 qa1 qa2 qb0 qb1 qb2)
  | (go_at_call 42; refine (hP _).mono ?_; rintro e w2 ⟨rfl, hb2⟩; have hB2 := hBa.trans (hb2.mono hBa.size); obtain ⟨ra0, ra1, ra2⟩ := (HK.out _ hB2).bx; obtain ⟨rb0, rb1, rb2⟩ := (HK.out _ hB2).by_; have rc := (HK.out _ hB2).cv; obtain ⟨rd, re⟩ := (HK.out _ hB2).cells; simp only at ra0 ra1 ra2 rb0 rb1 rb2))
 refine bodyPost_ret (v := .tuple #[.agg #[(.slice ao ln cap)], .int .i64 E]) (by simp [results, Tryz.results64, go_sem, rd]) rfl ?_
 obtain ⟨r1, r2⟩ := HFin.out _ _ _ (HR.out _ (hB2)) (hB2)
 exact ⟨_, rfl, r1, r2⟩
theorem refMove_shape (v : Value) (m : List Ln) (x y : Pl) (c : ByteArray) (n : Int) (w : World) (h : RefS w v m) (hw : Wf m) (hz : y.1.size ≤ maxLen) (t0 : takeE m (x, c) n = 0) (h0 : placeErr y = 0) (hxy : x = y) :
  Calls Tryz.prog 64 #[.agg #[v], agP x, agP y, .string c, .int .i64 n] w fun e w' => ∃ v', e = .returned (.tuple #[.agg #[v'], .int .i64 (3)]) ∧ RefS w' v' (m) ∧ Below w.heap.size w w' := by
 obtain ⟨ao, cap, rfl, _⟩ := h.shape
 have hW := refM w (.slice ao m.length cap) x y
 have HFin : Hid (∀ (wf : World) (ve : Value) (m' : List Ln), RefS wf ve m' → Below (boxM4 w (.slice ao m.length cap) x y).heap.size (boxM4 w (.slice ao m.length cap) x y) wf → RefS (wf.setCell ⟨w.heap.size + 1 + 1 + 1, 0, none⟩ ve) ve m' ∧ Below w.heap.size w (wf.setCell ⟨w.heap.size + 1 + 1 + 1, 0, none⟩ ve)) := fun wf ve m' hr hb => refM_fin hW hb hr
 have HR : Hid (∀ wf, Below (boxM4 w (.slice ao m.length cap) x y).heap.size (boxM4 w (.slice ao m.length cap) x y) wf → RefS wf (.slice ao m.length cap) m) := fun wf hb => (h.all hW.below).all hb
 have HK : Hid (∀ wf, Below (boxM4 w (.slice ao m.length cap) x y).heap.size (boxM4 w (.slice ao m.length cap) x y) wf → RefM w wf (.slice ao m.length cap) x y) := fun wf hb => hW.later hb
 have hT := refTake_any _ m x c n (boxM4 w (.slice ao m.length cap) x y) (h.all hW.below) hw
 have hP := fun w1 => placeError_any y w1 hz
 have hG := Tryz.guardK
 have hE := fun W => eqK_run x y W
 rw [t0] at hT
 rw [h0] at hP
 rw [decide_eq_true hxy] at hE
 clear hxy
 obtain ⟨a, r, bb⟩ := x
 obtain ⟨a', r', bb'⟩ := y
 unfold agP boxM4 boxR at *
 simp only at *
 obtain ⟨f0, ⟨p0, p1, p2⟩, s0, s1, s2⟩ : _ ∧ _ ∧ _ := ⟨hW.cv, hW.bx, hW.by_⟩
 obtain ⟨g0, g1⟩ := hW.cells
 simp only at p0 p1 p2 s0 s1 s2
 have HT : Hid (Calls Tryz.prog 63 _ _ _) := hT
 clear hW h hw hT
 generalize hln : m.length = ln at *
 have HLn : Hid (m.length = ln) := hln
 clear hln
 go_enter Tryz.func64, Tryz.ntmps64
 go_wp2_with (first
  | (go_at_call 63; refine HT.out.mono ?_; rintro e w1 ⟨v1, rfl, hr1, hb1⟩; obtain ⟨ao1, k1, cp1, rfl⟩ := own_sliceN hr1; have hBa := hb1.alloc hb1.size (.cells #[.slice ao1 k1 cp1] 76); obtain ⟨qa0, qa1, qa2⟩ := (HK.out _ hBa).bx; obtain ⟨qb0, qb1, qb2⟩ := (HK.out _ hBa).by_; have qc := (HK.out _ hBa).cv; obtain ⟨qd, qe⟩ := (HK.out _ hBa).cells; simp only at qa0 qa1 qa2 qb0 qb1 qb2)
  | (go_at_call 42; refine (hP _).mono ?_; rintro e w2 ⟨rfl, hb2⟩; have hB2 := hBa.trans (hb2.mono hBa.size); obtain ⟨ra0, ra1, ra2⟩ := (HK.out _ hB2).bx; obtain ⟨rb0, rb1, rb2⟩ := (HK.out _ hB2).by_; have rc := (HK.out _ hB2).cv; obtain ⟨rd, re⟩ := (HK.out _ hB2).cells; simp only at ra0 ra1 ra2 rb0 rb1 rb2))
 refine bodyPost_ret (v := .tuple #[.agg #[(.slice ao ln cap)], .int .i64 3]) (by simp [results, Tryz.results64, go_sem, rd]) rfl ?_
 obtain ⟨r1, r2⟩ := HFin.out _ _ _ (HR.out _ (hB2)) (hB2)
 exact ⟨_, rfl, r1, r2⟩
theorem refMove_full (v : Value) (m : List Ln) (x y : Pl) (c : ByteArray) (n : Int) (w : World) (h : RefS w v m) (hw : Wf m) (hz : y.1.size ≤ maxLen) (hz' : c.size ≤ maxLen) (t0 : takeE m (x, c) n = 0) (h0 : placeErr y = 0) (hxy : x ≠ y) (hf : putE (takeL m (x, c) n) y c n = 8) :
  Calls Tryz.prog 64 #[.agg #[v], agP x, agP y, .string c, .int .i64 n] w fun e w' => ∃ v', e = .returned (.tuple #[.agg #[v'], .int .i64 (8)]) ∧ RefS w' v' (m) ∧ Below w.heap.size w w' := by
 obtain ⟨ao, cap, rfl, _⟩ := h.shape
 have hW := refM w (.slice ao m.length cap) x y
 have HFin : Hid (∀ (wf : World) (ve : Value) (m' : List Ln), RefS wf ve m' → Below (boxM4 w (.slice ao m.length cap) x y).heap.size (boxM4 w (.slice ao m.length cap) x y) wf → RefS (wf.setCell ⟨w.heap.size + 1 + 1 + 1, 0, none⟩ ve) ve m' ∧ Below w.heap.size w (wf.setCell ⟨w.heap.size + 1 + 1 + 1, 0, none⟩ ve)) := fun wf ve m' hr hb => refM_fin hW hb hr
 have HR : Hid (∀ wf, Below (boxM4 w (.slice ao m.length cap) x y).heap.size (boxM4 w (.slice ao m.length cap) x y) wf → RefS wf (.slice ao m.length cap) m) := fun wf hb => (h.all hW.below).all hb
 have HK : Hid (∀ wf, Below (boxM4 w (.slice ao m.length cap) x y).heap.size (boxM4 w (.slice ao m.length cap) x y) wf → RefM w wf (.slice ao m.length cap) x y) := fun wf hb => hW.later hb
 have hT := refTake_any _ m x c n (boxM4 w (.slice ao m.length cap) x y) (h.all hW.below) hw
 have hP := fun w1 => placeError_any y w1 hz
 have hG := Tryz.guardK
 have hE := fun W => eqK_run x y W
 have hwt := hw.take (x, c) n
 have HPu : Hid (∀ wf v1, RefS wf v1 (takeL m (x, c) n) → Calls Tryz.prog 62 #[.agg #[v1], agP y, .string c, .int .i64 n] wf fun e w' => ∃ v', e = .returned (.tuple #[.agg #[v'], .int .i64 (putE (takeL m (x, c) n) y c n)]) ∧ RefS w' v' (putL (takeL m (x, c) n) y c n) ∧ Below wf.heap.size wf w') := fun wf v1 hr => refPut_any v1 _ y c n wf hr hwt hz hz'
 rw [t0] at hT
 rw [h0] at hP
 rw [hf] at HPu
 rw [decide_eq_false hxy] at hE
 clear hxy hf hwt
 generalize putL (takeL m (x, c) n) y c n = M3 at *
 generalize takeL m (x, c) n = M1 at *
 obtain ⟨a, r, bb⟩ := x
 obtain ⟨a', r', bb'⟩ := y
 unfold agP boxM4 boxR at *
 simp only at *
 obtain ⟨f0, ⟨p0, p1, p2⟩, s0, s1, s2⟩ : _ ∧ _ ∧ _ := ⟨hW.cv, hW.bx, hW.by_⟩
 obtain ⟨g0, g1⟩ := hW.cells
 simp only at p0 p1 p2 s0 s1 s2
 have HT : Hid (Calls Tryz.prog 63 _ _ _) := hT
 clear hW h hw hT
 generalize hln : m.length = ln at *
 have HLn : Hid (m.length = ln) := hln
 clear hln
 go_enter Tryz.func64, Tryz.ntmps64
 go_wp2_with (first
  | (go_at_call 63; refine HT.out.mono ?_; rintro e w1 ⟨v1, rfl, hr1, hb1⟩; obtain ⟨ao1, k1, cp1, rfl⟩ := own_sliceN hr1; have hBa := hb1.alloc hb1.size (.cells #[.slice ao1 k1 cp1] 76); obtain ⟨qa0, qa1, qa2⟩ := (HK.out _ hBa).bx; obtain ⟨qb0, qb1, qb2⟩ := (HK.out _ hBa).by_; have qc := (HK.out _ hBa).cv; obtain ⟨qd, qe⟩ := (HK.out _ hBa).cells; simp only at qa0 qa1 qa2 qb0 qb1 qb2)
  | (go_at_call 42; refine (hP _).mono ?_; rintro e w2 ⟨rfl, hb2⟩; have hB2 := hBa.trans (hb2.mono hBa.size); obtain ⟨ra0, ra1, ra2⟩ := (HK.out _ hB2).bx; obtain ⟨rb0, rb1, rb2⟩ := (HK.out _ hB2).by_; have rc := (HK.out _ hB2).cv; obtain ⟨rd, re⟩ := (HK.out _ hB2).cells; have rq : w2.cell? ⟨w1.heap.size, 0, none⟩ = some (.slice ao1 k1 cp1) := (by rw [cell_of_heap ((hb2.block _ (by simp)).trans (heap_alloc_new w1 _))]; rfl); simp only at ra0 ra1 ra2 rb0 rb1 rb2)
  | (go_at_call 62; refine (HPu.out _ _ (hr1.all (((Below.refl _ w1).alloc (Nat.le_refl _) _).trans (hb2.mono (by simp))))).mono ?_; rintro e w3 ⟨v3, rfl, hr3, hb3⟩; obtain ⟨ao3, k3, cp3, rfl⟩ := own_sliceN hr3; have hB3 := hB2.trans (hb3.mono hB2.size); have hq3 : w3.heap[w1.heap.size]? = some (.cells #[.slice ao1 k1 cp1] 76 (0, 0)) := (hb3.block _ (Nat.lt_of_lt_of_le (by simp) hb2.size)).trans ((hb2.block _ (by simp)).trans (heap_alloc_new w1 _)); have hx3 : w3.cell? ⟨w1.heap.size, 0, none⟩ = some (.slice ao1 k1 cp1) := (by rw [cell_of_heap hq3]; rfl); have hy3 := frozen_of_heap hq3 0; have hB4 := hB3.setCell (p := ⟨w1.heap.size, 0, none⟩) hb1.size (.slice ao3 k3 cp3); have hz4 : (w3.setCell ⟨w1.heap.size, 0, none⟩ (.slice ao3 k3 cp3)).cell? ⟨w1.heap.size, 0, none⟩ = some (.slice ao3 k3 cp3) := (by rw [cell_of_heap (hr3.put hq3).2]; rfl); have tc := (HK.out _ hB4).cv; obtain ⟨td, te⟩ := (HK.out _ hB4).cells))
 refine bodyPost_ret (v := .tuple #[.agg #[(.slice ao ln cap)], .int .i64 8]) (by simp [results, Tryz.results64, go_sem, td]) rfl ?_
 obtain ⟨r1, r2⟩ := HFin.out _ _ _ (HR.out _ (hB4)) (hB4)
 exact ⟨_, rfl, r1, r2⟩
theorem refMove_in (v : Value) (m : List Ln) (x y : Pl) (c : ByteArray) (n : Int) (w : World) (h : RefS w v m) (hw : Wf m) (hz : y.1.size ≤ maxLen) (hz' : c.size ≤ maxLen) (t0 : takeE m (x, c) n = 0) (h0 : placeErr y = 0) (hxy : x ≠ y) (hf : putE (takeL m (x, c) n) y c n = 0) :
  Calls Tryz.prog 64 #[.agg #[v], agP x, agP y, .string c, .int .i64 n] w fun e w' => ∃ v', e = .returned (.tuple #[.agg #[v'], .int .i64 (0)]) ∧ RefS w' v' (putL (takeL m (x, c) n) y c n) ∧ Below w.heap.size w w' := by
 obtain ⟨ao, cap, rfl, _⟩ := h.shape
 have hW := refM w (.slice ao m.length cap) x y
 have HFin : Hid (∀ (wf : World) (ve : Value) (m' : List Ln), RefS wf ve m' → Below (boxM4 w (.slice ao m.length cap) x y).heap.size (boxM4 w (.slice ao m.length cap) x y) wf → RefS (wf.setCell ⟨w.heap.size + 1 + 1 + 1, 0, none⟩ ve) ve m' ∧ Below w.heap.size w (wf.setCell ⟨w.heap.size + 1 + 1 + 1, 0, none⟩ ve)) := fun wf ve m' hr hb => refM_fin hW hb hr
 have HR : Hid (∀ wf, Below (boxM4 w (.slice ao m.length cap) x y).heap.size (boxM4 w (.slice ao m.length cap) x y) wf → RefS wf (.slice ao m.length cap) m) := fun wf hb => (h.all hW.below).all hb
 have HK : Hid (∀ wf, Below (boxM4 w (.slice ao m.length cap) x y).heap.size (boxM4 w (.slice ao m.length cap) x y) wf → RefM w wf (.slice ao m.length cap) x y) := fun wf hb => hW.later hb
 have hT := refTake_any _ m x c n (boxM4 w (.slice ao m.length cap) x y) (h.all hW.below) hw
 have hP := fun w1 => placeError_any y w1 hz
 have hG := Tryz.guardK
 have hE := fun W => eqK_run x y W
 have hwt := hw.take (x, c) n
 have HPu : Hid (∀ wf v1, RefS wf v1 (takeL m (x, c) n) → Calls Tryz.prog 62 #[.agg #[v1], agP y, .string c, .int .i64 n] wf fun e w' => ∃ v', e = .returned (.tuple #[.agg #[v'], .int .i64 (putE (takeL m (x, c) n) y c n)]) ∧ RefS w' v' (putL (takeL m (x, c) n) y c n) ∧ Below wf.heap.size wf w') := fun wf v1 hr => refPut_any v1 _ y c n wf hr hwt hz hz'
 rw [t0] at hT
 rw [h0] at hP
 rw [hf] at HPu
 rw [decide_eq_false hxy] at hE
 clear hxy hf hwt
 generalize putL (takeL m (x, c) n) y c n = M3 at *
 generalize takeL m (x, c) n = M1 at *
 obtain ⟨a, r, bb⟩ := x
 obtain ⟨a', r', bb'⟩ := y
 unfold agP boxM4 boxR at *
 simp only at *
 obtain ⟨f0, ⟨p0, p1, p2⟩, s0, s1, s2⟩ : _ ∧ _ ∧ _ := ⟨hW.cv, hW.bx, hW.by_⟩
 obtain ⟨g0, g1⟩ := hW.cells
 simp only at p0 p1 p2 s0 s1 s2
 have HT : Hid (Calls Tryz.prog 63 _ _ _) := hT
 clear hW h hw hT
 generalize hln : m.length = ln at *
 have HLn : Hid (m.length = ln) := hln
 clear hln
 go_enter Tryz.func64, Tryz.ntmps64
 go_wp2_with (first
  | (go_at_call 63; refine HT.out.mono ?_; rintro e w1 ⟨v1, rfl, hr1, hb1⟩; obtain ⟨ao1, k1, cp1, rfl⟩ := own_sliceN hr1; have hBa := hb1.alloc hb1.size (.cells #[.slice ao1 k1 cp1] 76); obtain ⟨qa0, qa1, qa2⟩ := (HK.out _ hBa).bx; obtain ⟨qb0, qb1, qb2⟩ := (HK.out _ hBa).by_; have qc := (HK.out _ hBa).cv; obtain ⟨qd, qe⟩ := (HK.out _ hBa).cells; simp only at qa0 qa1 qa2 qb0 qb1 qb2)
  | (go_at_call 42; refine (hP _).mono ?_; rintro e w2 ⟨rfl, hb2⟩; have hB2 := hBa.trans (hb2.mono hBa.size); obtain ⟨ra0, ra1, ra2⟩ := (HK.out _ hB2).bx; obtain ⟨rb0, rb1, rb2⟩ := (HK.out _ hB2).by_; have rc := (HK.out _ hB2).cv; obtain ⟨rd, re⟩ := (HK.out _ hB2).cells; have rq : w2.cell? ⟨w1.heap.size, 0, none⟩ = some (.slice ao1 k1 cp1) := (by rw [cell_of_heap ((hb2.block _ (by simp)).trans (heap_alloc_new w1 _))]; rfl); simp only at ra0 ra1 ra2 rb0 rb1 rb2)
  | (go_at_call 62; refine (HPu.out _ _ (hr1.all (((Below.refl _ w1).alloc (Nat.le_refl _) _).trans (hb2.mono (by simp))))).mono ?_; rintro e w3 ⟨v3, rfl, hr3, hb3⟩; obtain ⟨ao3, k3, cp3, rfl⟩ := own_sliceN hr3; have hB3 := hB2.trans (hb3.mono hB2.size); have hq3 : w3.heap[w1.heap.size]? = some (.cells #[.slice ao1 k1 cp1] 76 (0, 0)) := (hb3.block _ (Nat.lt_of_lt_of_le (by simp) hb2.size)).trans ((hb2.block _ (by simp)).trans (heap_alloc_new w1 _)); have hx3 : w3.cell? ⟨w1.heap.size, 0, none⟩ = some (.slice ao1 k1 cp1) := (by rw [cell_of_heap hq3]; rfl); have hy3 := frozen_of_heap hq3 0; have hB4 := hB3.setCell (p := ⟨w1.heap.size, 0, none⟩) hb1.size (.slice ao3 k3 cp3); have hz4 : (w3.setCell ⟨w1.heap.size, 0, none⟩ (.slice ao3 k3 cp3)).cell? ⟨w1.heap.size, 0, none⟩ = some (.slice ao3 k3 cp3) := (by rw [cell_of_heap (hr3.put hq3).2]; rfl); have tc := (HK.out _ hB4).cv; obtain ⟨td, te⟩ := (HK.out _ hB4).cells))
 refine bodyPost_ret (v := .tuple #[.agg #[(.slice ao3 k3 cp3)], .int .i64 0]) (by simp [results, Tryz.results64, go_sem, td]) rfl ?_
 obtain ⟨r1, r2⟩ := HFin.out _ _ _ ((hr3.put hq3).1) (hB4)
 exact ⟨_, rfl, r1, r2⟩
theorem refMove_any (v : Value) (m : List Ln) (x y : Pl) (c : ByteArray) (n : Int) (w : World) (h : RefS w v m) (hw : Wf m) (hz : y.1.size ≤ maxLen) (hz' : c.size ≤ maxLen) :
  Calls Tryz.prog 64 #[.agg #[v], agP x, agP y, .string c, .int .i64 n] w fun e w' => ∃ v', e = .returned (.tuple #[.agg #[v'], .int .i64 (moveE m x y c n)]) ∧ RefS w' v' (moveL m x y c n) ∧ Below w.heap.size w w' := by
 by_cases t0 : takeE m (x, c) n = 0
 ·by_cases h0 : placeErr y = 0
  ·by_cases hxy : x = y
   ·have e := moveE_shape t0 h0 hxy
    rw [moveL_err (by rw [e]; decide), e]
    exact refMove_shape v m x y c n w h hw hz t0 h0 hxy
   ·have e := moveE_full (m := m) t0 h0 hxy
    obtain ⟨p1, p2⟩ := move_parts hw t0 h0 hxy
    rw [← takeL_zero t0] at p1 p2
    by_cases hf : 200 < linesA m (x, c) (y, c) n
    ·rw [if_pos hf] at e p1
     rw [moveL_err (by rw [e]; decide), e]
     exact refMove_full v m x y c n w h hw hz hz' t0 h0 hxy p1
    ·rw [if_neg hf] at e p1
     have e2 : moveL m x y c n = putL (takeL m (x, c) n) y c n := by rw [moveL_zero e, putL_zero p1, p2, takeL_zero t0]
     rw [e2, e]
     exact refMove_in v m x y c n w h hw hz hz' t0 h0 hxy p1
  ·have e := moveE_place (m := m) t0 h0
   rw [moveL_err (by rw [e]; exact h0), e]
   exact refMove_place v m x y c n w h hw hz t0 h0
 ·have e := moveE_take (y := y) t0
  rw [moveL_err (by rw [e]; exact t0), e]
  exact refMove_take v m x y c n w h hw t0
end Go.Proofs.YtppodkkefegbkaaGreatDoor
