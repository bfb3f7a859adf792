/-
 What the reference's Put and Take answer: the lines behind it, and an error's number; nothing old is turned.
-/
import Derived.Test.YtppodkkefegbkaaGreatDoorKRefW
import Derived.Test.YtppodkkefegbkaaGreatDoorJz4
import Derived.Lib.OwnKind
set_option maxRecDepth 100000
set_option maxHeartbeats 16000000
namespace Go.Proofs.YtppodkkefegbkaaGreatDoor
open Go.RowKit Go.Lib Go.Sort
abbrev boxR3 (w : World) (v : Value) (x : Pl) : World := (boxR w v x).alloc (.cells #[.slice none 0 0] 76)
structure RefW (w W : World) (v : Value) (x : Pl) : Prop where
 below : Below w.heap.size w W
 cv : W.cell? ⟨w.heap.size, 0, none⟩ = some v
 bx : BoxAt (w.heap.size + 1) x W
 res : W.heap[w.heap.size + 1 + 1]? = some (.cells #[.slice none 0 0] 76 (0, 0))
theorem refW (w : World) (v : Value) (x : Pl) : RefW w (boxR3 w v x) v x := by
 have h0 := boxR_below w v x
 obtain ⟨h1, h2⟩ := boxR_cells w v x
 have s0 : (boxR w v x).heap.size = w.heap.size + 1 + 1 := by simp
 unfold boxR3
 generalize boxR w v x = W0 at *
 have hA : Below W0.heap.size W0 (W0.alloc (.cells #[.slice none 0 0] 76)) := (Below.refl _ _).alloc (Nat.le_refl _) _
 have nA := heap_alloc_new W0 (.cells #[.slice none 0 0] 76)
 rw [s0] at nA
 exact ⟨h0.trans (hA.mono h0.size), (hA.cell (p := ⟨w.heap.size, 0, none⟩) (by simp; omega)).trans h1, h2.below hA, nA⟩
theorem RefW.later {w W W' : World} {v : Value} {x : Pl} (h : RefW w W v x) (hb : Below W.heap.size W W') : RefW w W' v x :=
 ⟨h.below.trans (hb.mono h.below.size), (hb.cell (p := ⟨w.heap.size, 0, none⟩) (cell_lt h.cv)).trans h.cv, h.bx.below hb, (hb.block _ (Array.getElem?_eq_some_iff.1 h.res).1).trans h.res⟩
theorem RefW.cells {w W : World} {v : Value} {x : Pl} (h : RefW w W v x) : W.cell? ⟨w.heap.size + 1 + 1, 0, none⟩ = some (.slice none 0 0) ∧ W.frozen? ⟨w.heap.size + 1 + 1, 0, none⟩ = false := ⟨by rw [cell_of_heap h.res]; rfl, frozen_of_heap h.res 0⟩
theorem ref_fin {w W wf : World} {v ve : Value} {x : Pl} {m' : List Ln} (hW : RefW w W v x) (hb : Below W.heap.size W wf) (hr : RefS wf ve m') : RefS (wf.setCell ⟨w.heap.size + 1 + 1, 0, none⟩ ve) ve m' ∧ Below w.heap.size w (wf.setCell ⟨w.heap.size + 1 + 1, 0, none⟩ ve) := by
 have hf := hW.later hb
 refine ⟨ownsRow_setCell_other hr (fun e => ?_) _, hf.below.setCell (p := ⟨w.heap.size + 1 + 1, 0, none⟩) (by simp; omega) _⟩
 obtain ⟨c, fz, hc⟩ := ownsRow_kind hr _ e
 have := hf.res
 rw [hc] at this
 simp at this
theorem refPut_place (v : Value) (m : List Ln) (x : Pl) (c : ByteArray) (n : Int) (w : World) (h : RefS w v m) (_hw : Wf m) (hz : x.1.size ≤ maxLen) (h0 : placeErr x ≠ 0) :
  Calls Tryz.prog 62 #[.agg #[v], agP x, .string c, .int .i64 n] w fun e w' => ∃ v', e = .returned (.tuple #[.agg #[v'], .int .i64 (placeErr x)]) ∧ RefS w' v' (m) ∧ Below w.heap.size w w' := by
 have hP := fun w1 => placeError_any x w1 hz
 obtain ⟨ao, cap, rfl, _⟩ := h.shape
 have hW := refW w (.slice ao m.length cap) x
 have HFin : Hid (∀ (wf : World) (ve : Value) (m' : List Ln), RefS wf ve m' → Below (boxR3 w (.slice ao m.length cap) x).heap.size (boxR3 w (.slice ao m.length cap) x) wf → RefS (wf.setCell ⟨w.heap.size + 1 + 1, 0, none⟩ ve) ve m' ∧ Below w.heap.size w (wf.setCell ⟨w.heap.size + 1 + 1, 0, none⟩ ve)) := fun wf ve m' hr hb => ref_fin hW hb hr
 have HR : Hid (∀ wf, Below (boxR3 w (.slice ao m.length cap) x).heap.size (boxR3 w (.slice ao m.length cap) x) wf → RefS wf (.slice ao m.length cap) m) := fun wf hb => (h.all hW.below).all hb
 have HK : Hid (∀ wf, Below (boxR3 w (.slice ao m.length cap) x).heap.size (boxR3 w (.slice ao m.length cap) x) wf → RefW w wf (.slice ao m.length cap) x) := fun wf hb => hW.later hb
 have hE : (0 : Int) < (placeErr x : Int) := by omega
 generalize placeErr x = E at *
 obtain ⟨a, r, bb⟩ := x
 unfold agP boxR3 boxR at *
 simp only at *
 obtain ⟨f0, ⟨p0, p1, p2⟩⟩ : _ ∧ _ := ⟨hW.cv, hW.bx⟩
 obtain ⟨g0, g1⟩ := hW.cells
 simp only at p0 p1 p2
 clear hW h
 generalize hln : m.length = ln at *
 have HLn : Hid (m.length = ln) := hln
 clear hln
 go_enter Tryz.func62, Tryz.ntmps62
 go_wp2_with (go_at_call 42; refine (hP _).mono ?_; rintro e w1 ⟨rfl, hb1⟩; have hB1 := hb1; obtain ⟨q10, q11, q12⟩ := (HK.out _ hB1).bx; have q13 := (HK.out _ hB1).cv; obtain ⟨q14, q15⟩ := (HK.out _ hB1).cells; simp only at q10 q11 q12)
 refine bodyPost_ret (v := .tuple #[.agg #[(.slice ao ln cap)], .int .i64 E]) (by simp [results, Tryz.results62, go_sem, q14]) rfl ?_
 obtain ⟨r1, r2⟩ := HFin.out _ _ _ (HR.out _ (hB1)) (hB1)
 exact ⟨_, rfl, r1, r2⟩
theorem refPut_name (v : Value) (m : List Ln) (x : Pl) (c : ByteArray) (n : Int) (w : World) (h : RefS w v m) (_hw : Wf m) (hz : x.1.size ≤ maxLen) (hz' : c.size ≤ maxLen) (h0 : placeErr x = 0) (h1 : isName c.data.toList = false) :
  Calls Tryz.prog 62 #[.agg #[v], agP x, .string c, .int .i64 n] w fun e w' => ∃ v', e = .returned (.tuple #[.agg #[v'], .int .i64 (5)]) ∧ RefS w' v' (m) ∧ Below w.heap.size w w' := by
 have hP := fun w1 => placeError_any x w1 hz
 have hN : ∀ w, Calls Tryz.prog 43 #[.string c] w _ := fun w => isName_any c w hz'
 rw [h0] at hP
 rw [h1] at hN
 obtain ⟨ao, cap, rfl, _⟩ := h.shape
 have hW := refW w (.slice ao m.length cap) x
 have HFin : Hid (∀ (wf : World) (ve : Value) (m' : List Ln), RefS wf ve m' → Below (boxR3 w (.slice ao m.length cap) x).heap.size (boxR3 w (.slice ao m.length cap) x) wf → RefS (wf.setCell ⟨w.heap.size + 1 + 1, 0, none⟩ ve) ve m' ∧ Below w.heap.size w (wf.setCell ⟨w.heap.size + 1 + 1, 0, none⟩ ve)) := fun wf ve m' hr hb => ref_fin hW hb hr
 have HR : Hid (∀ wf, Below (boxR3 w (.slice ao m.length cap) x).heap.size (boxR3 w (.slice ao m.length cap) x) wf → RefS wf (.slice ao m.length cap) m) := fun wf hb => (h.all hW.below).all hb
 have HK : Hid (∀ wf, Below (boxR3 w (.slice ao m.length cap) x).heap.size (boxR3 w (.slice ao m.length cap) x) wf → RefW w wf (.slice ao m.length cap) x) := fun wf hb => hW.later hb
 obtain ⟨a, r, bb⟩ := x
 unfold agP boxR3 boxR at *
 simp only at *
 obtain ⟨f0, ⟨p0, p1, p2⟩⟩ : _ ∧ _ := ⟨hW.cv, hW.bx⟩
 obtain ⟨g0, g1⟩ := hW.cells
 simp only at p0 p1 p2
 clear hW h
 generalize hln : m.length = ln at *
 have HLn : Hid (m.length = ln) := hln
 clear hln
 go_enter Tryz.func62, Tryz.ntmps62
 go_wp2_with (first
  | (go_at_call 42; refine (hP _).mono ?_; rintro e w1 ⟨rfl, hb1⟩; have hB1 := hb1; obtain ⟨q10, q11, q12⟩ := (HK.out _ hB1).bx; have q13 := (HK.out _ hB1).cv; obtain ⟨q14, q15⟩ := (HK.out _ hB1).cells; simp only at q10 q11 q12)
  | (go_at_call 43; refine (hN _).mono ?_; rintro e w2 ⟨rfl, rfl⟩))
 refine bodyPost_ret (v := .tuple #[.agg #[(.slice ao ln cap)], .int .i64 5]) (by simp [results, Tryz.results62, go_sem, q14]) rfl ?_
 obtain ⟨r1, r2⟩ := HFin.out _ _ _ (HR.out _ (hB1)) (hB1)
 exact ⟨_, rfl, r1, r2⟩
theorem refPut_num (v : Value) (m : List Ln) (x : Pl) (c : ByteArray) (n : Int) (w : World) (h : RefS w v m) (_hw : Wf m) (hz : x.1.size ≤ maxLen) (hz' : c.size ≤ maxLen) (h0 : placeErr x = 0) (h1 : isName c.data.toList = true) (h2 : n < 1 ∨ (1 ≤ n ∧ 1099511627776 < n)) :
  Calls Tryz.prog 62 #[.agg #[v], agP x, .string c, .int .i64 n] w fun e w' => ∃ v', e = .returned (.tuple #[.agg #[v'], .int .i64 (2)]) ∧ RefS w' v' (m) ∧ Below w.heap.size w w' := by
 have hP := fun w1 => placeError_any x w1 hz
 have hN : ∀ w, Calls Tryz.prog 43 #[.string c] w _ := fun w => isName_any c w hz'
 rw [h0] at hP
 rw [h1] at hN
 obtain ⟨ao, cap, rfl, _⟩ := h.shape
 have hW := refW w (.slice ao m.length cap) x
 have HFin : Hid (∀ (wf : World) (ve : Value) (m' : List Ln), RefS wf ve m' → Below (boxR3 w (.slice ao m.length cap) x).heap.size (boxR3 w (.slice ao m.length cap) x) wf → RefS (wf.setCell ⟨w.heap.size + 1 + 1, 0, none⟩ ve) ve m' ∧ Below w.heap.size w (wf.setCell ⟨w.heap.size + 1 + 1, 0, none⟩ ve)) := fun wf ve m' hr hb => ref_fin hW hb hr
 have HR : Hid (∀ wf, Below (boxR3 w (.slice ao m.length cap) x).heap.size (boxR3 w (.slice ao m.length cap) x) wf → RefS wf (.slice ao m.length cap) m) := fun wf hb => (h.all hW.below).all hb
 have HK : Hid (∀ wf, Below (boxR3 w (.slice ao m.length cap) x).heap.size (boxR3 w (.slice ao m.length cap) x) wf → RefW w wf (.slice ao m.length cap) x) := fun wf hb => hW.later hb
 obtain ⟨a, r, bb⟩ := x
 unfold agP boxR3 boxR at *
 simp only at *
 obtain ⟨f0, ⟨p0, p1, p2⟩⟩ : _ ∧ _ := ⟨hW.cv, hW.bx⟩
 obtain ⟨g0, g1⟩ := hW.cells
 simp only at p0 p1 p2
 clear hW h
 generalize hln : m.length = ln at *
 have HLn : Hid (m.length = ln) := hln
 clear hln
 rcases h2 with h2 | ⟨h2, h3⟩
 all_goals
  go_enter Tryz.func62, Tryz.ntmps62
  go_wp2_with (first
   | (go_at_call 42; refine (hP _).mono ?_; rintro e w1 ⟨rfl, hb1⟩; have hB1 := hb1; obtain ⟨q10, q11, q12⟩ := (HK.out _ hB1).bx; have q13 := (HK.out _ hB1).cv; obtain ⟨q14, q15⟩ := (HK.out _ hB1).cells; simp only at q10 q11 q12)
   | (go_at_call 43; refine (hN _).mono ?_; rintro e w2 ⟨rfl, rfl⟩))
  refine bodyPost_ret (v := .tuple #[.agg #[(.slice ao ln cap)], .int .i64 2]) (by simp [results, Tryz.results62, go_sem, q14]) rfl ?_
  obtain ⟨r1, r2⟩ := HFin.out _ _ _ (HR.out _ (hB1)) (hB1)
  exact ⟨_, rfl, r1, r2⟩
theorem refPut_sum (v : Value) (m : List Ln) (x : Pl) (c : ByteArray) (n : Int) (w : World) (h : RefS w v m) (hw : Wf m) (hz : x.1.size ≤ maxLen) (hz' : c.size ≤ maxLen) (h0 : placeErr x = 0) (h1 : isName c.data.toList = true) (n1 : 1 ≤ n) (n2 : n ≤ 1099511627776) (h3 : 1099511627776 < ofL m c + n) :
  Calls Tryz.prog 62 #[.agg #[v], agP x, .string c, .int .i64 n] w fun e w' => ∃ v', e = .returned (.tuple #[.agg #[v'], .int .i64 (2)]) ∧ RefS w' v' (m) ∧ Below w.heap.size w w' := by
 have hP := fun w1 => placeError_any x w1 hz
 have hN : ∀ w, Calls Tryz.prog 43 #[.string c] w _ := fun w => isName_any c w hz'
 rw [h0] at hP
 rw [h1] at hN
 obtain ⟨ao, cap, rfl, _⟩ := h.shape
 have hW := refW w (.slice ao m.length cap) x
 have HFin : Hid (∀ (wf : World) (ve : Value) (m' : List Ln), RefS wf ve m' → Below (boxR3 w (.slice ao m.length cap) x).heap.size (boxR3 w (.slice ao m.length cap) x) wf → RefS (wf.setCell ⟨w.heap.size + 1 + 1, 0, none⟩ ve) ve m' ∧ Below w.heap.size w (wf.setCell ⟨w.heap.size + 1 + 1, 0, none⟩ ve)) := fun wf ve m' hr hb => ref_fin hW hb hr
 have HR : Hid (∀ wf, Below (boxR3 w (.slice ao m.length cap) x).heap.size (boxR3 w (.slice ao m.length cap) x) wf → RefS wf (.slice ao m.length cap) m) := fun wf hb => (h.all hW.below).all hb
 have HK : Hid (∀ wf, Below (boxR3 w (.slice ao m.length cap) x).heap.size (boxR3 w (.slice ao m.length cap) x) wf → RefW w wf (.slice ao m.length cap) x) := fun wf hb => hW.later hb
 have HO : Hid (∀ wf, Below (boxR3 w (.slice ao m.length cap) x).heap.size (boxR3 w (.slice ao m.length cap) x) wf → Calls Tryz.prog 65 #[.agg #[.slice ao m.length cap], .string c] wf fun e w' => e = .returned (.int .i64 (ofL m c)) ∧ Below wf.heap.size wf w') := fun wf hb => refOf_any _ m c wf (HR.out wf hb) hw
 obtain ⟨o1, o2⟩ := hw.of_bound c
 generalize ofL m c = O at *
 obtain ⟨a, r, bb⟩ := x
 unfold agP boxR3 boxR at *
 simp only at *
 obtain ⟨f0, ⟨p0, p1, p2⟩⟩ : _ ∧ _ := ⟨hW.cv, hW.bx⟩
 obtain ⟨g0, g1⟩ := hW.cells
 simp only at p0 p1 p2
 clear hW h hw
 generalize hln : m.length = ln at *
 have HLn : Hid (m.length = ln) := hln
 clear hln
 go_enter Tryz.func62, Tryz.ntmps62
 go_wp2_with (first
  | (go_at_call 42; refine (hP _).mono ?_; rintro e w1 ⟨rfl, hb1⟩; have hB1 := hb1; obtain ⟨q10, q11, q12⟩ := (HK.out _ hB1).bx; have q13 := (HK.out _ hB1).cv; obtain ⟨q14, q15⟩ := (HK.out _ hB1).cells; simp only at q10 q11 q12)
  | (go_at_call 43; refine (hN _).mono ?_; rintro e w2 ⟨rfl, rfl⟩)
  | (go_at_call 65; refine (HO.out _ hB1).mono ?_; rintro e w4 ⟨rfl, hb4⟩; have hB4 := hB1.trans (hb4.mono hB1.size); obtain ⟨q40, q41, q42⟩ := (HK.out _ hB4).bx; have q43 := (HK.out _ hB4).cv; obtain ⟨q44, q45⟩ := (HK.out _ hB4).cells; simp only at q40 q41 q42))
 refine bodyPost_ret (v := .tuple #[.agg #[(.slice ao ln cap)], .int .i64 2]) (by simp [results, Tryz.results62, go_sem, q44]) rfl ?_
 obtain ⟨r1, r2⟩ := HFin.out _ _ _ (HR.out _ (hB4)) (hB4)
 exact ⟨_, rfl, r1, r2⟩
theorem refPut_full (v : Value) (m : List Ln) (x : Pl) (c : ByteArray) (n : Int) (w : World) (h : RefS w v m) (hw : Wf m) (hz : x.1.size ≤ maxLen) (hz' : c.size ≤ maxLen) (h0 : placeErr x = 0) (h1 : isName c.data.toList = true) (n1 : 1 ≤ n) (n2 : n ≤ 1099511627776) (h3 : ofL m c + n ≤ 1099511627776) (h4 : findR m (x, c) = -1) (h5 : 200 ≤ m.length) :
  Calls Tryz.prog 62 #[.agg #[v], agP x, .string c, .int .i64 n] w fun e w' => ∃ v', e = .returned (.tuple #[.agg #[v'], .int .i64 (8)]) ∧ RefS w' v' (m) ∧ Below w.heap.size w w' := by
 have hP := fun w1 => placeError_any x w1 hz
 have hN : ∀ w, Calls Tryz.prog 43 #[.string c] w _ := fun w => isName_any c w hz'
 rw [h0] at hP
 rw [h1] at hN
 obtain ⟨ao, cap, rfl, _⟩ := h.shape
 have hW := refW w (.slice ao m.length cap) x
 have HFin : Hid (∀ (wf : World) (ve : Value) (m' : List Ln), RefS wf ve m' → Below (boxR3 w (.slice ao m.length cap) x).heap.size (boxR3 w (.slice ao m.length cap) x) wf → RefS (wf.setCell ⟨w.heap.size + 1 + 1, 0, none⟩ ve) ve m' ∧ Below w.heap.size w (wf.setCell ⟨w.heap.size + 1 + 1, 0, none⟩ ve)) := fun wf ve m' hr hb => ref_fin hW hb hr
 have HR : Hid (∀ wf, Below (boxR3 w (.slice ao m.length cap) x).heap.size (boxR3 w (.slice ao m.length cap) x) wf → RefS wf (.slice ao m.length cap) m) := fun wf hb => (h.all hW.below).all hb
 have HK : Hid (∀ wf, Below (boxR3 w (.slice ao m.length cap) x).heap.size (boxR3 w (.slice ao m.length cap) x) wf → RefW w wf (.slice ao m.length cap) x) := fun wf hb => hW.later hb
 have HO : Hid (∀ wf, Below (boxR3 w (.slice ao m.length cap) x).heap.size (boxR3 w (.slice ao m.length cap) x) wf → Calls Tryz.prog 65 #[.agg #[.slice ao m.length cap], .string c] wf fun e w' => e = .returned (.int .i64 (ofL m c)) ∧ Below wf.heap.size wf w') := fun wf hb => refOf_any _ m c wf (HR.out wf hb) hw
 obtain ⟨o1, o2⟩ := hw.of_bound c
 have HFi : Hid (∀ wf, Below (boxR3 w (.slice ao m.length cap) x).heap.size (boxR3 w (.slice ao m.length cap) x) wf → Calls Tryz.prog 82 #[.agg #[.slice ao m.length cap], agP x, .string c] wf fun e w' => e = .returned (.int .i64 (findR m (x, c))) ∧ Below wf.heap.size wf w') := fun wf hb => find_any _ m x c wf (HR.out wf hb) hw.len
 rw [h4] at HFi
 have h6 := hw.len
 generalize ofL m c = O at *
 clear h4
 obtain ⟨a, r, bb⟩ := x
 unfold agP boxR3 boxR at *
 simp only at *
 obtain ⟨f0, ⟨p0, p1, p2⟩⟩ : _ ∧ _ := ⟨hW.cv, hW.bx⟩
 obtain ⟨g0, g1⟩ := hW.cells
 simp only at p0 p1 p2
 clear hW h hw
 generalize hln : m.length = ln at *
 have HLn : Hid (m.length = ln) := hln
 clear hln
 go_enter Tryz.func62, Tryz.ntmps62
 go_wp2_with (first
  | (go_at_call 42; refine (hP _).mono ?_; rintro e w1 ⟨rfl, hb1⟩; have hB1 := hb1; obtain ⟨q10, q11, q12⟩ := (HK.out _ hB1).bx; have q13 := (HK.out _ hB1).cv; obtain ⟨q14, q15⟩ := (HK.out _ hB1).cells; simp only at q10 q11 q12)
  | (go_at_call 43; refine (hN _).mono ?_; rintro e w2 ⟨rfl, rfl⟩)
  | (go_at_call 65; refine (HO.out _ hB1).mono ?_; rintro e w4 ⟨rfl, hb4⟩; have hB4 := hB1.trans (hb4.mono hB1.size); obtain ⟨q40, q41, q42⟩ := (HK.out _ hB4).bx; have q43 := (HK.out _ hB4).cv; obtain ⟨q44, q45⟩ := (HK.out _ hB4).cells; simp only at q40 q41 q42)
  | (go_at_call 82; refine (HFi.out _ hB4).mono ?_; rintro e w5 ⟨rfl, hb5⟩; have hB5 := hB4.trans (hb5.mono hB4.size); obtain ⟨q50, q51, q52⟩ := (HK.out _ hB5).bx; have q53 := (HK.out _ hB5).cv; obtain ⟨q54, q55⟩ := (HK.out _ hB5).cells; simp only at q50 q51 q52))
 refine bodyPost_ret (v := .tuple #[.agg #[(.slice ao ln cap)], .int .i64 8]) (by simp [results, Tryz.results62, go_sem, q54]) rfl ?_
 obtain ⟨r1, r2⟩ := HFin.out _ _ _ (HR.out _ (hB5)) (hB5)
 exact ⟨_, rfl, r1, r2⟩
theorem refPut_in (v : Value) (m : List Ln) (x : Pl) (c : ByteArray) (n : Int) (w : World) (h : RefS w v m) (hw : Wf m) (hz : x.1.size ≤ maxLen) (hz' : c.size ≤ maxLen) (h0 : placeErr x = 0) (h1 : isName c.data.toList = true) (n1 : 1 ≤ n) (n2 : n ≤ 1099511627776) (h3 : ofL m c + n ≤ 1099511627776) (h4 : (findR m (x, c) = -1 ∧ m.length < 200) ∨ 0 ≤ findR m (x, c)) :
  Calls Tryz.prog 62 #[.agg #[v], agP x, .string c, .int .i64 n] w fun e w' => ∃ v', e = .returned (.tuple #[.agg #[v'], .int .i64 (0)]) ∧ RefS w' v' (withL m (x, c) (atL m (x, c) + n)) ∧ Below w.heap.size w w' := by
 have hP := fun w1 => placeError_any x w1 hz
 have hN : ∀ w, Calls Tryz.prog 43 #[.string c] w _ := fun w => isName_any c w hz'
 rw [h0] at hP
 rw [h1] at hN
 obtain ⟨ao, cap, rfl, _⟩ := h.shape
 have hW := refW w (.slice ao m.length cap) x
 have HFin : Hid (∀ (wf : World) (ve : Value) (m' : List Ln), RefS wf ve m' → Below (boxR3 w (.slice ao m.length cap) x).heap.size (boxR3 w (.slice ao m.length cap) x) wf → RefS (wf.setCell ⟨w.heap.size + 1 + 1, 0, none⟩ ve) ve m' ∧ Below w.heap.size w (wf.setCell ⟨w.heap.size + 1 + 1, 0, none⟩ ve)) := fun wf ve m' hr hb => ref_fin hW hb hr
 have HR : Hid (∀ wf, Below (boxR3 w (.slice ao m.length cap) x).heap.size (boxR3 w (.slice ao m.length cap) x) wf → RefS wf (.slice ao m.length cap) m) := fun wf hb => (h.all hW.below).all hb
 have HK : Hid (∀ wf, Below (boxR3 w (.slice ao m.length cap) x).heap.size (boxR3 w (.slice ao m.length cap) x) wf → RefW w wf (.slice ao m.length cap) x) := fun wf hb => hW.later hb
 have HO : Hid (∀ wf, Below (boxR3 w (.slice ao m.length cap) x).heap.size (boxR3 w (.slice ao m.length cap) x) wf → Calls Tryz.prog 65 #[.agg #[.slice ao m.length cap], .string c] wf fun e w' => e = .returned (.int .i64 (ofL m c)) ∧ Below wf.heap.size wf w') := fun wf hb => refOf_any _ m c wf (HR.out wf hb) hw
 obtain ⟨o1, o2⟩ := hw.of_bound c
 have HFi : Hid (∀ wf, Below (boxR3 w (.slice ao m.length cap) x).heap.size (boxR3 w (.slice ao m.length cap) x) wf → Calls Tryz.prog 82 #[.agg #[.slice ao m.length cap], agP x, .string c] wf fun e w' => e = .returned (.int .i64 (findR m (x, c))) ∧ Below wf.heap.size wf w') := fun wf hb => find_any _ m x c wf (HR.out wf hb) hw.len
 have HAt : Hid (∀ wf, Below (boxR3 w (.slice ao m.length cap) x).heap.size (boxR3 w (.slice ao m.length cap) x) wf → Calls Tryz.prog 52 #[.agg #[.slice ao m.length cap], agP x, .string c] wf fun e w' => e = .returned (.int .i64 (atL m (x, c))) ∧ Below wf.heap.size wf w') := fun wf hb => refAt_any _ m x c wf (HR.out wf hb) hw.len hw.sorted
 have v1 := hw.at_nonneg (x, c)
 have v2 : atL m (x, c) ≤ 1099511627776 := Int.le_trans (hw.at_le (x, c)) (hw.most _)
 have HWi : Hid (∀ wf, Below (boxR3 w (.slice ao m.length cap) x).heap.size (boxR3 w (.slice ao m.length cap) x) wf → Calls Tryz.prog 93 #[.agg #[.slice ao m.length cap], agP x, .string c, .int .i64 (atL m (x, c) + n)] wf fun e w' => ∃ v', e = .returned (.agg #[v']) ∧ RefS w' v' (withL m (x, c) (atL m (x, c) + n)) ∧ Below wf.heap.size wf w') := fun wf hb => with_any _ m x c _ wf (HR.out wf hb) hw.len
 have h6 := hw.len
 generalize ofL m c = O at *
 generalize withL m (x, c) (atL m (x, c) + n) = M at *
 generalize atL m (x, c) = V at *
 generalize findR m (x, c) = F at *
 obtain ⟨a, r, bb⟩ := x
 unfold agP boxR3 boxR at *
 simp only at *
 obtain ⟨f0, ⟨p0, p1, p2⟩⟩ : _ ∧ _ := ⟨hW.cv, hW.bx⟩
 obtain ⟨g0, g1⟩ := hW.cells
 simp only at p0 p1 p2
 clear hW h hw
 generalize hln : m.length = ln at *
 have HLn : Hid (m.length = ln) := hln
 clear hln
 have hwr : IntKind.i64.wrap (V + n) = V + n := by rw [IntKind.wrap_i64]; omega
 rcases h4 with ⟨rfl, h4⟩ | h4
 all_goals
  go_enter Tryz.func62, Tryz.ntmps62
  go_wp2_with (first
   | (go_at_call 42; refine (hP _).mono ?_; rintro e w1 ⟨rfl, hb1⟩; have hB1 := hb1; obtain ⟨q10, q11, q12⟩ := (HK.out _ hB1).bx; have q13 := (HK.out _ hB1).cv; obtain ⟨q14, q15⟩ := (HK.out _ hB1).cells; simp only at q10 q11 q12)
   | (go_at_call 43; refine (hN _).mono ?_; rintro e w2 ⟨rfl, rfl⟩)
   | (go_at_call 65; refine (HO.out _ hB1).mono ?_; rintro e w4 ⟨rfl, hb4⟩; have hB4 := hB1.trans (hb4.mono hB1.size); obtain ⟨q40, q41, q42⟩ := (HK.out _ hB4).bx; have q43 := (HK.out _ hB4).cv; obtain ⟨q44, q45⟩ := (HK.out _ hB4).cells; simp only at q40 q41 q42)
   | (go_at_call 82; refine (HFi.out _ hB4).mono ?_; rintro e w5 ⟨rfl, hb5⟩; have hB5 := hB4.trans (hb5.mono hB4.size); obtain ⟨q50, q51, q52⟩ := (HK.out _ hB5).bx; have q53 := (HK.out _ hB5).cv; obtain ⟨q54, q55⟩ := (HK.out _ hB5).cells; simp only at q50 q51 q52))
  have hB6 := hB5.drew
  go_region_held3 (fun w' => w'.cell? ⟨w.heap.size, 0, none⟩ = some (.slice ao ln cap) ∧ w'.cell? ⟨w.heap.size + 1, 0, none⟩ = some (.string a) ∧ w'.cell? ⟨w.heap.size + 1, 1, none⟩ = some (.int .i64 r) ∧ w'.cell? ⟨w.heap.size + 1, 2, none⟩ = some (.int .i64 bb)) (go_keep)
   (first
    | (go_at_call 52; refine (HAt.out _ hB6).mono ?_; rintro e w7 ⟨rfl, hb7⟩; have hB7 := hB6.trans (hb7.mono hB6.size); obtain ⟨q70, q71, q72⟩ := (HK.out _ hB7).bx; have q73 := (HK.out _ hB7).cv; obtain ⟨q74, q75⟩ := (HK.out _ hB7).cells; simp only at q70 q71 q72)
    | (go_at_call 93; refine (HWi.out _ hB7).mono ?_; rintro e w8 ⟨v8, rfl, hr8, hb8⟩; obtain ⟨ao8, k8, cp8, rfl⟩ := own_sliceN hr8; have hB8 := hB7.trans (hb8.mono hB7.size); obtain ⟨q80, q81, q82⟩ := (HK.out _ hB8).bx; have q83 := (HK.out _ hB8).cv; obtain ⟨q84, q85⟩ := (HK.out _ hB8).cells; have q86 : (w8.setCell ⟨w.heap.size + 1 + 1, 0, none⟩ (.slice ao8 k8 cp8)).cell? ⟨w.heap.size, 0, none⟩ = some (.slice ao ln cap) := (World.cell?_of_block (a := ⟨w.heap.size, 0, none⟩) (Below.heap_setCell w8 ⟨w.heap.size + 1 + 1, 0, none⟩ _ w.heap.size (by simp; omega))).trans q83; simp only at q80 q81 q82))
  go_wp2
  refine bodyPost_ret (v := .tuple #[.agg #[(.slice ao8 k8 cp8)], .int .i64 0]) (by simp [results, Tryz.results62, go_sem, q84]) rfl ?_
  obtain ⟨r1, r2⟩ := HFin.out _ _ _ (hr8) (hB8)
  exact ⟨_, rfl, r1, r2⟩
theorem refTake_num (v : Value) (m : List Ln) (x : Pl) (c : ByteArray) (n : Int) (w : World) (h : RefS w v m) (_hw : Wf m) (h2 : n < 1 ∨ (1 ≤ n ∧ 1099511627776 < n)) :
  Calls Tryz.prog 63 #[.agg #[v], agP x, .string c, .int .i64 n] w fun e w' => ∃ v', e = .returned (.tuple #[.agg #[v'], .int .i64 (2)]) ∧ RefS w' v' (m) ∧ Below w.heap.size w w' := by
 obtain ⟨ao, cap, rfl, _⟩ := h.shape
 have HR0 : Hid (∀ o, RefS ((boxR w (.slice ao m.length cap) x).alloc o) (.slice ao m.length cap) m ∧ Below w.heap.size w ((boxR w (.slice ao m.length cap) x).alloc o)) := fun o => by
  have hb := (boxR_below w (.slice ao m.length cap) x).alloc (boxR_below w (.slice ao m.length cap) x).size o
  exact ⟨h.all hb, hb⟩
 obtain ⟨f0, _⟩ := boxR_cells w (.slice ao m.length cap) x
 obtain ⟨a, r, bb⟩ := x
 unfold agP boxR at *
 simp only at *
 clear h
 generalize m.length = ln at *
 rcases h2 with h2 | ⟨h2, h3⟩
 all_goals
  go_enter Tryz.func63, Tryz.ntmps63
  go_wp2
  refine bodyPost_ret (v := .tuple #[.agg #[.slice ao ln cap], .int .i64 2]) (by simp [results, Tryz.results63, go_sem]) rfl ?_
  exact ⟨_, rfl, (HR0.out _).1, (HR0.out _).2⟩
theorem refTake_short (v : Value) (m : List Ln) (x : Pl) (c : ByteArray) (n : Int) (w : World) (h : RefS w v m) (hw : Wf m) (n1 : 1 ≤ n) (n2 : n ≤ 1099511627776) (h3 : atL m (x, c) < n) :
  Calls Tryz.prog 63 #[.agg #[v], agP x, .string c, .int .i64 n] w fun e w' => ∃ v', e = .returned (.tuple #[.agg #[v'], .int .i64 (9)]) ∧ RefS w' v' (m) ∧ Below w.heap.size w w' := by
 obtain ⟨ao, cap, rfl, _⟩ := h.shape
 have hW := refW w (.slice ao m.length cap) x
 have HFin : Hid (∀ (wf : World) (ve : Value) (m' : List Ln), RefS wf ve m' → Below (boxR3 w (.slice ao m.length cap) x).heap.size (boxR3 w (.slice ao m.length cap) x) wf → RefS (wf.setCell ⟨w.heap.size + 1 + 1, 0, none⟩ ve) ve m' ∧ Below w.heap.size w (wf.setCell ⟨w.heap.size + 1 + 1, 0, none⟩ ve)) := fun wf ve m' hr hb => ref_fin hW hb hr
 have HR : Hid (∀ wf, Below (boxR3 w (.slice ao m.length cap) x).heap.size (boxR3 w (.slice ao m.length cap) x) wf → RefS wf (.slice ao m.length cap) m) := fun wf hb => (h.all hW.below).all hb
 have HK : Hid (∀ wf, Below (boxR3 w (.slice ao m.length cap) x).heap.size (boxR3 w (.slice ao m.length cap) x) wf → RefW w wf (.slice ao m.length cap) x) := fun wf hb => hW.later hb
 have hBB := Below.refl (boxR3 w (.slice ao m.length cap) x).heap.size (boxR3 w (.slice ao m.length cap) x)
 have HAt : Hid (∀ wf, Below (boxR3 w (.slice ao m.length cap) x).heap.size (boxR3 w (.slice ao m.length cap) x) wf → Calls Tryz.prog 52 #[.agg #[.slice ao m.length cap], agP x, .string c] wf fun e w' => e = .returned (.int .i64 (atL m (x, c))) ∧ Below wf.heap.size wf w') := fun wf hb => refAt_any _ m x c wf (HR.out wf hb) hw.len hw.sorted
 have v1 := hw.at_nonneg (x, c)
 have v2 : atL m (x, c) ≤ 1099511627776 := Int.le_trans (hw.at_le (x, c)) (hw.most _)
 generalize atL m (x, c) = V at *
 obtain ⟨a, r, bb⟩ := x
 unfold agP boxR3 boxR at *
 simp only at *
 obtain ⟨f0, ⟨p0, p1, p2⟩⟩ : _ ∧ _ := ⟨hW.cv, hW.bx⟩
 obtain ⟨g0, g1⟩ := hW.cells
 simp only at p0 p1 p2
 clear hW h hw
 generalize hln : m.length = ln at *
 have HLn : Hid (m.length = ln) := hln
 clear hln
 go_enter Tryz.func63, Tryz.ntmps63
 go_wp2_with (go_at_call 52; refine (HAt.out _ hBB).mono ?_; rintro e w7 ⟨rfl, hb7⟩; have hB7 := hBB.trans (hb7.mono hBB.size); obtain ⟨q70, q71, q72⟩ := (HK.out _ hB7).bx; have q73 := (HK.out _ hB7).cv; obtain ⟨q74, q75⟩ := (HK.out _ hB7).cells; simp only at q70 q71 q72)
 refine bodyPost_ret (v := .tuple #[.agg #[(.slice ao ln cap)], .int .i64 9]) (by simp [results, Tryz.results63, go_sem, q74]) rfl ?_
 obtain ⟨r1, r2⟩ := HFin.out _ _ _ (HR.out _ (hB7)) (hB7)
 exact ⟨_, rfl, r1, r2⟩
theorem refTake_in (v : Value) (m : List Ln) (x : Pl) (c : ByteArray) (n : Int) (w : World) (h : RefS w v m) (hw : Wf m) (n1 : 1 ≤ n) (n2 : n ≤ 1099511627776) (h3 : n ≤ atL m (x, c)) :
  Calls Tryz.prog 63 #[.agg #[v], agP x, .string c, .int .i64 n] w fun e w' => ∃ v', e = .returned (.tuple #[.agg #[v'], .int .i64 (0)]) ∧ RefS w' v' (withL m (x, c) (atL m (x, c) - n)) ∧ Below w.heap.size w w' := by
 obtain ⟨ao, cap, rfl, _⟩ := h.shape
 have hW := refW w (.slice ao m.length cap) x
 have HFin : Hid (∀ (wf : World) (ve : Value) (m' : List Ln), RefS wf ve m' → Below (boxR3 w (.slice ao m.length cap) x).heap.size (boxR3 w (.slice ao m.length cap) x) wf → RefS (wf.setCell ⟨w.heap.size + 1 + 1, 0, none⟩ ve) ve m' ∧ Below w.heap.size w (wf.setCell ⟨w.heap.size + 1 + 1, 0, none⟩ ve)) := fun wf ve m' hr hb => ref_fin hW hb hr
 have HR : Hid (∀ wf, Below (boxR3 w (.slice ao m.length cap) x).heap.size (boxR3 w (.slice ao m.length cap) x) wf → RefS wf (.slice ao m.length cap) m) := fun wf hb => (h.all hW.below).all hb
 have HK : Hid (∀ wf, Below (boxR3 w (.slice ao m.length cap) x).heap.size (boxR3 w (.slice ao m.length cap) x) wf → RefW w wf (.slice ao m.length cap) x) := fun wf hb => hW.later hb
 have hBB := Below.refl (boxR3 w (.slice ao m.length cap) x).heap.size (boxR3 w (.slice ao m.length cap) x)
 have HAt : Hid (∀ wf, Below (boxR3 w (.slice ao m.length cap) x).heap.size (boxR3 w (.slice ao m.length cap) x) wf → Calls Tryz.prog 52 #[.agg #[.slice ao m.length cap], agP x, .string c] wf fun e w' => e = .returned (.int .i64 (atL m (x, c))) ∧ Below wf.heap.size wf w') := fun wf hb => refAt_any _ m x c wf (HR.out wf hb) hw.len hw.sorted
 have v1 := hw.at_nonneg (x, c)
 have v2 : atL m (x, c) ≤ 1099511627776 := Int.le_trans (hw.at_le (x, c)) (hw.most _)
 have HWi : Hid (∀ wf, Below (boxR3 w (.slice ao m.length cap) x).heap.size (boxR3 w (.slice ao m.length cap) x) wf → Calls Tryz.prog 93 #[.agg #[.slice ao m.length cap], agP x, .string c, .int .i64 (atL m (x, c) - n)] wf fun e w' => ∃ v', e = .returned (.agg #[v']) ∧ RefS w' v' (withL m (x, c) (atL m (x, c) - n)) ∧ Below wf.heap.size wf w') := fun wf hb => with_any _ m x c _ wf (HR.out wf hb) hw.len
 generalize withL m (x, c) (atL m (x, c) - n) = M at *
 generalize atL m (x, c) = V at *
 obtain ⟨a, r, bb⟩ := x
 unfold agP boxR3 boxR at *
 simp only at *
 obtain ⟨f0, ⟨p0, p1, p2⟩⟩ : _ ∧ _ := ⟨hW.cv, hW.bx⟩
 obtain ⟨g0, g1⟩ := hW.cells
 simp only at p0 p1 p2
 clear hW h hw
 generalize hln : m.length = ln at *
 have HLn : Hid (m.length = ln) := hln
 clear hln
 go_enter Tryz.func63, Tryz.ntmps63
 go_wp2_with (first
  | (go_at_call 52; refine (HAt.out _ hBB).mono ?_; rintro e w7 ⟨rfl, hb7⟩; have hB7 := hBB.trans (hb7.mono hBB.size); obtain ⟨q70, q71, q72⟩ := (HK.out _ hB7).bx; have q73 := (HK.out _ hB7).cv; obtain ⟨q74, q75⟩ := (HK.out _ hB7).cells; simp only at q70 q71 q72)
  | (go_at_call 93; refine (HWi.out _ hB7).mono ?_; rintro e w8 ⟨v8, rfl, hr8, hb8⟩; obtain ⟨ao8, k8, cp8, rfl⟩ := own_sliceN hr8; have hB8 := hB7.trans (hb8.mono hB7.size); obtain ⟨q80, q81, q82⟩ := (HK.out _ hB8).bx; have q83 := (HK.out _ hB8).cv; obtain ⟨q84, q85⟩ := (HK.out _ hB8).cells; have q86 : (w8.setCell ⟨w.heap.size + 1 + 1, 0, none⟩ (.slice ao8 k8 cp8)).cell? ⟨w.heap.size, 0, none⟩ = some (.slice ao ln cap) := (World.cell?_of_block (a := ⟨w.heap.size, 0, none⟩) (Below.heap_setCell w8 ⟨w.heap.size + 1 + 1, 0, none⟩ _ w.heap.size (by simp; omega))).trans q83; simp only at q80 q81 q82))
 refine bodyPost_ret (v := .tuple #[.agg #[(.slice ao8 k8 cp8)], .int .i64 0]) (by simp [results, Tryz.results63, go_sem, q84]) rfl ?_
 obtain ⟨r1, r2⟩ := HFin.out _ _ _ (hr8) (hB8)
 exact ⟨_, rfl, r1, r2⟩
theorem refPut_any (v : Value) (m : List Ln) (x : Pl) (c : ByteArray) (n : Int) (w : World) (h : RefS w v m) (hw : Wf m) (hz : x.1.size ≤ maxLen) (hz' : c.size ≤ maxLen) :
  Calls Tryz.prog 62 #[.agg #[v], agP x, .string c, .int .i64 n] w fun e w' => ∃ v', e = .returned (.tuple #[.agg #[v'], .int .i64 (putE m x c n)]) ∧ RefS w' v' (putL m x c n) ∧ Below w.heap.size w w' := by
 by_cases h0 : placeErr x = 0
 ·cases h1 : isName c.data.toList with
  | false =>
   have e := putE_name (m := m) (n := n) h0 h1
   rw [putL_err (by rw [e]; decide), e]
   exact refPut_name v m x c n w h hw hz hz' h0 h1
  | true =>
   cases h2 : numW n with
   | false =>
    have e := putE_num (m := m) (n := n) h0 h1 (Or.inl h2)
    rw [putL_err (by rw [e]; decide), e]
    refine refPut_num v m x c n w h hw hz hz' h0 h1 ?_
    have : ¬ (1 ≤ n ∧ n ≤ 1099511627776) := fun hn => by rw [(numW_iff n).2 hn] at h2; cases h2
    omega
   | true =>
    obtain ⟨n1, n2⟩ := (numW_iff n).1 h2
    by_cases h3 : ofL m c + n ≤ 1099511627776
    ·have e := putE_full (m := m) (x := x) h0 h1 h2 h3
     rcases findR_cases m (x, c) with ⟨hf, hno⟩ | ⟨i, l, hf, hl, hk⟩
     ·have ha : atL m (x, c) = 0 := atL_none hno
      by_cases h4 : 200 ≤ m.length
      ·rw [if_pos ⟨ha, h4⟩] at e
       rw [putL_err (by rw [e]; decide), e]
       exact refPut_full v m x c n w h hw hz hz' h0 h1 n1 n2 h3 hf h4
      ·rw [if_neg (fun hx => h4 hx.2)] at e
       rw [putL_zero e, e]
       exact refPut_in v m x c n w h hw hz hz' h0 h1 n1 n2 h3 (Or.inl ⟨hf, by omega⟩)
     ·have hp := atL_pos_of hw hl
      rw [hk] at hp
      rw [if_neg (fun hx => by omega)] at e
      rw [putL_zero e, e]
      exact refPut_in v m x c n w h hw hz hz' h0 h1 n1 n2 h3 (Or.inr (by rw [hf]; omega))
    ·have h4 : 1099511627776 < ofL m c + n := by omega
     have e := putE_num (m := m) (n := n) h0 h1 (Or.inr h4)
     rw [putL_err (by rw [e]; decide), e]
     exact refPut_sum v m x c n w h hw hz hz' h0 h1 n1 n2 h4
 ·have e := putE_place (m := m) (c := c) (n := n) h0
  rw [putL_err (by rw [e]; exact h0), e]
  exact refPut_place v m x c n w h hw hz h0
theorem refTake_any (v : Value) (m : List Ln) (x : Pl) (c : ByteArray) (n : Int) (w : World) (h : RefS w v m) (hw : Wf m) :
  Calls Tryz.prog 63 #[.agg #[v], agP x, .string c, .int .i64 n] w fun e w' => ∃ v', e = .returned (.tuple #[.agg #[v'], .int .i64 (takeE m (x, c) n)]) ∧ RefS w' v' (takeL m (x, c) n) ∧ Below w.heap.size w w' := by
 cases h2 : numW n with
 | false =>
  have e : takeE m (x, c) n = 2 := by unfold takeE; rw [h2]; rfl
  rw [takeL_err (by rw [e]; decide), e]
  refine refTake_num v m x c n w h hw ?_
  have : ¬ (1 ≤ n ∧ n ≤ 1099511627776) := fun hn => by rw [(numW_iff n).2 hn] at h2; cases h2
  omega
 | true =>
  obtain ⟨n1, n2⟩ := (numW_iff n).1 h2
  by_cases h3 : n ≤ atL m (x, c)
  ·have e : takeE m (x, c) n = 0 := by unfold takeE; rw [if_pos h2, if_pos h3]
   rw [takeL_zero e, e]
   exact refTake_in v m x c n w h hw n1 n2 h3
  ·have e : takeE m (x, c) n = 9 := by unfold takeE; rw [if_pos h2, if_neg h3]
   rw [takeL_err (by rw [e]; decide), e]
   exact refTake_short v m x c n w h hw n1 n2 (by omega)
abbrev boxM4 (w : World) (v : Value) (x y : Pl) : World := ((boxR w v x).alloc (.cells #[.string y.1, .int .i64 y.2.1, .int .i64 y.2.2] 41)).alloc (.cells #[.slice none 0 0] 76)
structure RefM (w W : World) (v : Value) (x y : Pl) : Prop where
 below : Below w.heap.size w W
 cv : W.cell? ⟨w.heap.size, 0, none⟩ = some v
 bx : BoxAt (w.heap.size + 1) x W
 by_ : BoxAt (w.heap.size + 1 + 1) y W
 res : W.heap[w.heap.size + 1 + 1 + 1]? = some (.cells #[.slice none 0 0] 76 (0, 0))
theorem refM (w : World) (v : Value) (x y : Pl) : RefM w (boxM4 w v x y) v x y := by
 have h0 := boxR_below w v x
 obtain ⟨h1, h2⟩ := boxR_cells w v x
 have s0 : (boxR w v x).heap.size = w.heap.size + 1 + 1 := by simp
 unfold boxM4
 generalize boxR w v x = W0 at *
 have hA : Below W0.heap.size W0 (W0.alloc (.cells #[.string y.1, .int .i64 y.2.1, .int .i64 y.2.2] 41)) := (Below.refl _ _).alloc (Nat.le_refl _) _
 have nA := BoxAt.new W0 y 41 (w.heap.size + 1 + 1) s0.symm
 have sA : (W0.alloc (.cells #[.string y.1, .int .i64 y.2.1, .int .i64 y.2.2] 41)).heap.size = w.heap.size + 1 + 1 + 1 := by simp [s0]
 generalize W0.alloc (.cells #[.string y.1, .int .i64 y.2.1, .int .i64 y.2.2] 41) = W1 at *
 have hC : Below W1.heap.size W1 (W1.alloc (.cells #[.slice none 0 0] 76)) := (Below.refl _ _).alloc (Nat.le_refl _) _
 have nC := heap_alloc_new W1 (.cells #[.slice none 0 0] 76)
 rw [sA] at nC
 have hAC := hA.trans (hC.mono hA.size)
 exact ⟨h0.trans (hAC.mono h0.size), (hAC.cell (p := ⟨w.heap.size, 0, none⟩) (by simp; omega)).trans h1, h2.below hAC, nA.below hC, nC⟩
theorem RefM.later {w W W' : World} {v : Value} {x y : Pl} (h : RefM w W v x y) (hb : Below W.heap.size W W') : RefM w W' v x y :=
 ⟨h.below.trans (hb.mono h.below.size), (hb.cell (p := ⟨w.heap.size, 0, none⟩) (cell_lt h.cv)).trans h.cv, h.bx.below hb, h.by_.below hb, (hb.block _ (Array.getElem?_eq_some_iff.1 h.res).1).trans h.res⟩
theorem RefM.cells {w W : World} {v : Value} {x y : Pl} (h : RefM w W v x y) : W.cell? ⟨w.heap.size + 1 + 1 + 1, 0, none⟩ = some (.slice none 0 0) ∧ W.frozen? ⟨w.heap.size + 1 + 1 + 1, 0, none⟩ = false := ⟨by rw [cell_of_heap h.res]; rfl, frozen_of_heap h.res 0⟩
theorem RefS.put {w : World} {v u u' : Value} {m : List Ln} {q : Nat} (h : RefS w v m) (hq : w.heap[q]? = some (.cells #[u] 76 (0, 0))) : RefS (w.setCell ⟨q, 0, none⟩ u') v m ∧ (w.setCell ⟨q, 0, none⟩ u').heap[q]? = some (.cells #[u'] 76 (0, 0)) := by
 refine ⟨ownsRow_setCell_other h (fun e => ?_) _, by simpa using Joins.block_setCell (i := 0) hq u'⟩
 obtain ⟨c, fz, hc⟩ := ownsRow_kind h _ e
 rw [hc] at hq
 simp at hq
theorem refM_fin {w W wf : World} {v ve : Value} {x y : Pl} {m' : List Ln} (hW : RefM w W v x y) (hb : Below W.heap.size W wf) (hr : RefS wf ve m') : RefS (wf.setCell ⟨w.heap.size + 1 + 1 + 1, 0, none⟩ ve) ve m' ∧ Below w.heap.size w (wf.setCell ⟨w.heap.size + 1 + 1 + 1, 0, none⟩ ve) := by
 have hf := hW.later hb
 exact ⟨(hr.put hf.res).1, hf.below.setCell (p := ⟨w.heap.size + 1 + 1 + 1, 0, none⟩) (by simp; omega) _⟩
theorem refMove_take (v : Value) (m : List Ln) (x y : Pl) (c : ByteArray) (n : Int) (w : World) (h : RefS w v m) (hw : Wf m) (h0 : takeE m (x, c) n ≠ 0) :
  Calls Tryz.prog 64 #[.agg #[v], agP x, agP y, .string c, .int .i64 n] w fun e w' => ∃ v', e = .returned (.tuple #[.agg #[v'], .int .i64 (takeE m (x, c) n)]) ∧ RefS w' v' (m) ∧ Below w.heap.size w w' := by
 obtain ⟨ao, cap, rfl, _⟩ := h.shape
 have hW := refM w (.slice ao m.length cap) x y
 have HFin : Hid (∀ (wf : World) (ve : Value) (m' : List Ln), RefS wf ve m' → Below (boxM4 w (.slice ao m.length cap) x y).heap.size (boxM4 w (.slice ao m.length cap) x y) wf → RefS (wf.setCell ⟨w.heap.size + 1 + 1 + 1, 0, none⟩ ve) ve m' ∧ Below w.heap.size w (wf.setCell ⟨w.heap.size + 1 + 1 + 1, 0, none⟩ ve)) := fun wf ve m' hr hb => refM_fin hW hb hr
 have HR : Hid (∀ wf, Below (boxM4 w (.slice ao m.length cap) x y).heap.size (boxM4 w (.slice ao m.length cap) x y) wf → RefS wf (.slice ao m.length cap) m) := fun wf hb => (h.all hW.below).all hb
 have HK : Hid (∀ wf, Below (boxM4 w (.slice ao m.length cap) x y).heap.size (boxM4 w (.slice ao m.length cap) x y) wf → RefM w wf (.slice ao m.length cap) x y) := fun wf hb => hW.later hb
 have hT := refTake_any _ m x c n (boxM4 w (.slice ao m.length cap) x y) (h.all hW.below) hw
 have hE : ((takeE m (x, c) n : Int) == 0) = false := by simp; omega
 have hE' : (0 : Int) < (takeE m (x, c) n : Int) := by omega
 generalize takeE m (x, c) n = E at *
 obtain ⟨a, r, bb⟩ := x
 obtain ⟨a', r', bb'⟩ := y
 unfold agP boxM4 boxR at *
 simp only at *
 obtain ⟨f0, ⟨p0, p1, p2⟩, s0, s1, s2⟩ : _ ∧ _ ∧ _ := ⟨hW.cv, hW.bx, hW.by_⟩
 obtain ⟨g0, g1⟩ := hW.cells
 simp only at p0 p1 p2 s0 s1 s2
 have HT : Hid (Calls Tryz.prog 63 _ _ _) := hT
 clear hW h hw hT
 generalize hln : m.length = ln at *
 have HLn : Hid (m.length = ln) := hln
 clear hln
 go_enter Tryz.func64, Tryz.ntmps64
 go_wp2_with (go_at_call 63; refine HT.out.mono ?_; rintro e w1 ⟨v1, rfl, hr1, hb1⟩; obtain ⟨ao1, k1, cp1, rfl⟩ := own_sliceN hr1; have hBa := hb1.alloc hb1.size (.cells #[.slice ao1 k1 cp1] 76); obtain ⟨qa0, qa1, qa2⟩ := (HK.out _ hBa).bx; obtain ⟨qb0, qb1, qb2⟩ := (HK.out _ hBa).by_; have qc := (HK.out _ hBa).cv; obtain ⟨qd, qe⟩ := (HK.out _ hBa).cells; simp only at qa0 qa1 qa2 qb0 qb1 qb2)
 refine bodyPost_ret (v := .tuple #[.agg #[(.slice ao ln cap)], .int .i64 E]) (by simp [results, Tryz.results64, go_sem, qd]) rfl ?_
 obtain ⟨r1, r2⟩ := HFin.out _ _ _ (HR.out _ (hBa)) (hBa)
 exact ⟨_, rfl, r1, r2⟩
theorem refMove_place (v : Value) (m : List Ln) (x y : Pl) (c : ByteArray) (n : Int) (w : World) (h : RefS w v m) (hw : Wf m) (hz : y.1.size ≤ maxLen) (t0 : takeE m (x, c) n = 0) (h0 : placeErr y ≠ 0) :
  Calls Tryz.prog 64 #[.agg #[v], agP x, agP y, .string c, .int .i64 n] w fun e w' => ∃ v', e = .returned (.tuple #[.agg #[v'], .int .i64 (placeErr y)]) ∧ RefS w' v' (m) ∧ Below w.heap.size w w' := by
 obtain ⟨ao, cap, rfl, _⟩ := h.shape
 have hW := refM w (.slice ao m.length cap) x y
 have HFin : Hid (∀ (wf : World) (ve : Value) (m' : List Ln), RefS wf ve m' → Below (boxM4 w (.slice ao m.length cap) x y).heap.size (boxM4 w (.slice ao m.length cap) x y) wf → RefS (wf.setCell ⟨w.heap.size + 1 + 1 + 1, 0, none⟩ ve) ve m' ∧ Below w.heap.size w (wf.setCell ⟨w.heap.size + 1 + 1 + 1, 0, none⟩ ve)) := fun wf ve m' hr hb => refM_fin hW hb hr
 have HR : Hid (∀ wf, Below (boxM4 w (.slice ao m.length cap) x y).heap.size (boxM4 w (.slice ao m.length cap) x y) wf → RefS wf (.slice ao m.length cap) m) := fun wf hb => (h.all hW.below).all hb
 have HK : Hid (∀ wf, Below (boxM4 w (.slice ao m.length cap) x y).heap.size (boxM4 w (.slice ao m.length cap) x y) wf → RefM w wf (.slice ao m.length cap) x y) := fun wf hb => hW.later hb
 have hT := refTake_any _ m x c n (boxM4 w (.slice ao m.length cap) x y) (h.all hW.below) hw
 have hP := fun w1 => placeError_any y w1 hz
 rw [t0] at hT
 have hE : ((placeErr y : Int) == 0) = false := by simp; omega
 have hE' : (0 : Int) < (placeErr y : Int) := by omega
 generalize placeErr y = E at *
 obtain ⟨a, r, bb⟩ := x
 obtain ⟨a', r', bb'⟩ := y
 unfold agP boxM4 boxR at *
 simp only at *
 obtain ⟨f0, ⟨p0, p1, p2⟩, s0, s1, s2⟩ : _ ∧ _ ∧ _ := ⟨hW.cv, hW.bx, hW.by_⟩
 obtain ⟨g0, g1⟩ := hW.cells
 simp only at p0 p1 p2 s0 s1 s2
 have HT : Hid (Calls Tryz.prog 63 _ _ _) := hT
 clear hW h hw hT
 generalize hln : m.length = ln at *
 have HLn : Hid (m.length = ln) := hln
 clear hln
 go_enter Tryz.func64, Tryz.ntmps64
 go_wp2_with (first
  | (go_at_call 63; refine HT.out.mono ?_; rintro e w1 ⟨v1, rfl, hr1, hb1⟩; obtain ⟨ao1, k1, cp1, rfl⟩ := own_sliceN hr1; have hBa := hb1.alloc hb1.size (.cells #[.slice ao1 k1 cp1] 76); obtain ⟨qa0, qa1, qa2⟩ := (HK.out _ hBa).bx; obtain ⟨qb0, qb1, qb2⟩ := (HK.out _ hBa).by_; have qc := (HK.out _ hBa).cv; obtain ⟨qd, qe⟩ := (HK.out _ hBa).cells; simp only at qa0 qa1 qa2 qb0 qb1 qb2)
  | (go_at_call 42; refine (hP _).mono ?_; rintro e w2 ⟨rfl, hb2⟩; have hB2 := hBa.trans (hb2.mono hBa.size); obtain ⟨ra0, ra1, ra2⟩ := (HK.out _ hB2).bx; obtain ⟨rb0, rb1, rb2⟩ := (HK.out _ hB2).by_; have rc := (HK.out _ hB2).cv; obtain ⟨rd, re⟩ := (HK.out _ hB2).cells; simp only at ra0 ra1 ra2 rb0 rb1 rb2))
 refine bodyPost_ret (v := .tuple #[.agg #[(.slice ao ln cap)], .int .i64 E]) (by simp [results, Tryz.results64, go_sem, rd]) rfl ?_
 obtain ⟨r1, r2⟩ := HFin.out _ _ _ (HR.out _ (hB2)) (hB2)
 exact ⟨_, rfl, r1, r2⟩
theorem refMove_shape (v : Value) (m : List Ln) (x y : Pl) (c : ByteArray) (n : Int) (w : World) (h : RefS w v m) (hw : Wf m) (hz : y.1.size ≤ maxLen) (t0 : takeE m (x, c) n = 0) (h0 : placeErr y = 0) (hxy : x = y) :
  Calls Tryz.prog 64 #[.agg #[v], agP x, agP y, .string c, .int .i64 n] w fun e w' => ∃ v', e = .returned (.tuple #[.agg #[v'], .int .i64 (3)]) ∧ RefS w' v' (m) ∧ Below w.heap.size w w' := by
 obtain ⟨ao, cap, rfl, _⟩ := h.shape
 have hW := refM w (.slice ao m.length cap) x y
 have HFin : Hid (∀ (wf : World) (ve : Value) (m' : List Ln), RefS wf ve m' → Below (boxM4 w (.slice ao m.length cap) x y).heap.size (boxM4 w (.slice ao m.length cap) x y) wf → RefS (wf.setCell ⟨w.heap.size + 1 + 1 + 1, 0, none⟩ ve) ve m' ∧ Below w.heap.size w (wf.setCell ⟨w.heap.size + 1 + 1 + 1, 0, none⟩ ve)) := fun wf ve m' hr hb => refM_fin hW hb hr
 have HR : Hid (∀ wf, Below (boxM4 w (.slice ao m.length cap) x y).heap.size (boxM4 w (.slice ao m.length cap) x y) wf → RefS wf (.slice ao m.length cap) m) := fun wf hb => (h.all hW.below).all hb
 have HK : Hid (∀ wf, Below (boxM4 w (.slice ao m.length cap) x y).heap.size (boxM4 w (.slice ao m.length cap) x y) wf → RefM w wf (.slice ao m.length cap) x y) := fun wf hb => hW.later hb
 have hT := refTake_any _ m x c n (boxM4 w (.slice ao m.length cap) x y) (h.all hW.below) hw
 have hP := fun w1 => placeError_any y w1 hz
 have hG := Tryz.guardK
 have hE := fun W => eqK_run x y W
 rw [t0] at hT
 rw [h0] at hP
 rw [decide_eq_true hxy] at hE
 clear hxy
 obtain ⟨a, r, bb⟩ := x
 obtain ⟨a', r', bb'⟩ := y
 unfold agP boxM4 boxR at *
 simp only at *
 obtain ⟨f0, ⟨p0, p1, p2⟩, s0, s1, s2⟩ : _ ∧ _ ∧ _ := ⟨hW.cv, hW.bx, hW.by_⟩
 obtain ⟨g0, g1⟩ := hW.cells
 simp only at p0 p1 p2 s0 s1 s2
 have HT : Hid (Calls Tryz.prog 63 _ _ _) := hT
 clear hW h hw hT
 generalize hln : m.length = ln at *
 have HLn : Hid (m.length = ln) := hln
 clear hln
 go_enter Tryz.func64, Tryz.ntmps64
 go_wp2_with (first
  | (go_at_call 63; refine HT.out.mono ?_; rintro e w1 ⟨v1, rfl, hr1, hb1⟩; obtain ⟨ao1, k1, cp1, rfl⟩ := own_sliceN hr1; have hBa := hb1.alloc hb1.size (.cells #[.slice ao1 k1 cp1] 76); obtain ⟨qa0, qa1, qa2⟩ := (HK.out _ hBa).bx; obtain ⟨qb0, qb1, qb2⟩ := (HK.out _ hBa).by_; have qc := (HK.out _ hBa).cv; obtain ⟨qd, qe⟩ := (HK.out _ hBa).cells; simp only at qa0 qa1 qa2 qb0 qb1 qb2)
  | (go_at_call 42; refine (hP _).mono ?_; rintro e w2 ⟨rfl, hb2⟩; have hB2 := hBa.trans (hb2.mono hBa.size); obtain ⟨ra0, ra1, ra2⟩ := (HK.out _ hB2).bx; obtain ⟨rb0, rb1, rb2⟩ := (HK.out _ hB2).by_; have rc := (HK.out _ hB2).cv; obtain ⟨rd, re⟩ := (HK.out _ hB2).cells; simp only at ra0 ra1 ra2 rb0 rb1 rb2))
 refine bodyPost_ret (v := .tuple #[.agg #[(.slice ao ln cap)], .int .i64 3]) (by simp [results, Tryz.results64, go_sem, rd]) rfl ?_
 obtain ⟨r1, r2⟩ := HFin.out _ _ _ (HR.out _ (hB2)) (hB2)
 exact ⟨_, rfl, r1, r2⟩
theorem refMove_full (v : Value) (m : List Ln) (x y : Pl) (c : ByteArray) (n : Int) (w : World) (h : RefS w v m) (hw : Wf m) (hz : y.1.size ≤ maxLen) (hz' : c.size ≤ maxLen) (t0 : takeE m (x, c) n = 0) (h0 : placeErr y = 0) (hxy : x ≠ y) (hf : putE (takeL m (x, c) n) y c n = 8) :
  Calls Tryz.prog 64 #[.agg #[v], agP x, agP y, .string c, .int .i64 n] w fun e w' => ∃ v', e = .returned (.tuple #[.agg #[v'], .int .i64 (8)]) ∧ RefS w' v' (m) ∧ Below w.heap.size w w' := by
 obtain ⟨ao, cap, rfl, _⟩ := h.shape
 have hW := refM w (.slice ao m.length cap) x y
 have HFin : Hid (∀ (wf : World) (ve : Value) (m' : List Ln), RefS wf ve m' → Below (boxM4 w (.slice ao m.length cap) x y).heap.size (boxM4 w (.slice ao m.length cap) x y) wf → RefS (wf.setCell ⟨w.heap.size + 1 + 1 + 1, 0, none⟩ ve) ve m' ∧ Below w.heap.size w (wf.setCell ⟨w.heap.size + 1 + 1 + 1, 0, none⟩ ve)) := fun wf ve m' hr hb => refM_fin hW hb hr
 have HR : Hid (∀ wf, Below (boxM4 w (.slice ao m.length cap) x y).heap.size (boxM4 w (.slice ao m.length cap) x y) wf → RefS wf (.slice ao m.length cap) m) := fun wf hb => (h.all hW.below).all hb
 have HK : Hid (∀ wf, Below (boxM4 w (.slice ao m.length cap) x y).heap.size (boxM4 w (.slice ao m.length cap) x y) wf → RefM w wf (.slice ao m.length cap) x y) := fun wf hb => hW.later hb
 have hT := refTake_any _ m x c n (boxM4 w (.slice ao m.length cap) x y) (h.all hW.below) hw
 have hP := fun w1 => placeError_any y w1 hz
 have hG := Tryz.guardK
 have hE := fun W => eqK_run x y W
 have hwt := hw.take (x, c) n
 have HPu : Hid (∀ wf v1, RefS wf v1 (takeL m (x, c) n) → Calls Tryz.prog 62 #[.agg #[v1], agP y, .string c, .int .i64 n] wf fun e w' => ∃ v', e = .returned (.tuple #[.agg #[v'], .int .i64 (putE (takeL m (x, c) n) y c n)]) ∧ RefS w' v' (putL (takeL m (x, c) n) y c n) ∧ Below wf.heap.size wf w') := fun wf v1 hr => refPut_any v1 _ y c n wf hr hwt hz hz'
 rw [t0] at hT
 rw [h0] at hP
 rw [hf] at HPu
 rw [decide_eq_false hxy] at hE
 clear hxy hf hwt
 generalize putL (takeL m (x, c) n) y c n = M3 at *
 generalize takeL m (x, c) n = M1 at *
 obtain ⟨a, r, bb⟩ := x
 obtain ⟨a', r', bb'⟩ := y
 unfold agP boxM4 boxR at *
 simp only at *
 obtain ⟨f0, ⟨p0, p1, p2⟩, s0, s1, s2⟩ : _ ∧ _ ∧ _ := ⟨hW.cv, hW.bx, hW.by_⟩
 obtain ⟨g0, g1⟩ := hW.cells
 simp only at p0 p1 p2 s0 s1 s2
 have HT : Hid (Calls Tryz.prog 63 _ _ _) := hT
 clear hW h hw hT
 generalize hln : m.length = ln at *
 have HLn : Hid (m.length = ln) := hln
 clear hln
 go_enter Tryz.func64, Tryz.ntmps64
 go_wp2_with (first
  | (go_at_call 63; refine HT.out.mono ?_; rintro e w1 ⟨v1, rfl, hr1, hb1⟩; obtain ⟨ao1, k1, cp1, rfl⟩ := own_sliceN hr1; have hBa := hb1.alloc hb1.size (.cells #[.slice ao1 k1 cp1] 76); obtain ⟨qa0, qa1, qa2⟩ := (HK.out _ hBa).bx; obtain ⟨qb0, qb1, qb2⟩ := (HK.out _ hBa).by_; have qc := (HK.out _ hBa).cv; obtain ⟨qd, qe⟩ := (HK.out _ hBa).cells; simp only at qa0 qa1 qa2 qb0 qb1 qb2)
  | (go_at_call 42; refine (hP _).mono ?_; rintro e w2 ⟨rfl, hb2⟩; have hB2 := hBa.trans (hb2.mono hBa.size); obtain ⟨ra0, ra1, ra2⟩ := (HK.out _ hB2).bx; obtain ⟨rb0, rb1, rb2⟩ := (HK.out _ hB2).by_; have rc := (HK.out _ hB2).cv; obtain ⟨rd, re⟩ := (HK.out _ hB2).cells; have rq : w2.cell? ⟨w1.heap.size, 0, none⟩ = some (.slice ao1 k1 cp1) := (by rw [cell_of_heap ((hb2.block _ (by simp)).trans (heap_alloc_new w1 _))]; rfl); simp only at ra0 ra1 ra2 rb0 rb1 rb2)
  | (go_at_call 62; refine (HPu.out _ _ (hr1.all (((Below.refl _ w1).alloc (Nat.le_refl _) _).trans (hb2.mono (by simp))))).mono ?_; rintro e w3 ⟨v3, rfl, hr3, hb3⟩; obtain ⟨ao3, k3, cp3, rfl⟩ := own_sliceN hr3; have hB3 := hB2.trans (hb3.mono hB2.size); have hq3 : w3.heap[w1.heap.size]? = some (.cells #[.slice ao1 k1 cp1] 76 (0, 0)) := (hb3.block _ (Nat.lt_of_lt_of_le (by simp) hb2.size)).trans ((hb2.block _ (by simp)).trans (heap_alloc_new w1 _)); have hx3 : w3.cell? ⟨w1.heap.size, 0, none⟩ = some (.slice ao1 k1 cp1) := (by rw [cell_of_heap hq3]; rfl); have hy3 := frozen_of_heap hq3 0; have hB4 := hB3.setCell (p := ⟨w1.heap.size, 0, none⟩) hb1.size (.slice ao3 k3 cp3); have hz4 : (w3.setCell ⟨w1.heap.size, 0, none⟩ (.slice ao3 k3 cp3)).cell? ⟨w1.heap.size, 0, none⟩ = some (.slice ao3 k3 cp3) := (by rw [cell_of_heap (hr3.put hq3).2]; rfl); have tc := (HK.out _ hB4).cv; obtain ⟨td, te⟩ := (HK.out _ hB4).cells))
 refine bodyPost_ret (v := .tuple #[.agg #[(.slice ao ln cap)], .int .i64 8]) (by simp [results, Tryz.results64, go_sem, td]) rfl ?_
 obtain ⟨r1, r2⟩ := HFin.out _ _ _ (HR.out _ (hB4)) (hB4)
 exact ⟨_, rfl, r1, r2⟩
theorem refMove_in (v : Value) (m : List Ln) (x y : Pl) (c : ByteArray) (n : Int) (w : World) (h : RefS w v m) (hw : Wf m) (hz : y.1.size ≤ maxLen) (hz' : c.size ≤ maxLen) (t0 : takeE m (x, c) n = 0) (h0 : placeErr y = 0) (hxy : x ≠ y) (hf : putE (takeL m (x, c) n) y c n = 0) :
  Calls Tryz.prog 64 #[.agg #[v], agP x, agP y, .string c, .int .i64 n] w fun e w' => ∃ v', e = .returned (.tuple #[.agg #[v'], .int .i64 (0)]) ∧ RefS w' v' (putL (takeL m (x, c) n) y c n) ∧ Below w.heap.size w w' := by
 obtain ⟨ao, cap, rfl, _⟩ := h.shape
 have hW := refM w (.slice ao m.length cap) x y
 have HFin : Hid (∀ (wf : World) (ve : Value) (m' : List Ln), RefS wf ve m' → Below (boxM4 w (.slice ao m.length cap) x y).heap.size (boxM4 w (.slice ao m.length cap) x y) wf → RefS (wf.setCell ⟨w.heap.size + 1 + 1 + 1, 0, none⟩ ve) ve m' ∧ Below w.heap.size w (wf.setCell ⟨w.heap.size + 1 + 1 + 1, 0, none⟩ ve)) := fun wf ve m' hr hb => refM_fin hW hb hr
 have HR : Hid (∀ wf, Below (boxM4 w (.slice ao m.length cap) x y).heap.size (boxM4 w (.slice ao m.length cap) x y) wf → RefS wf (.slice ao m.length cap) m) := fun wf hb => (h.all hW.below).all hb
 have HK : Hid (∀ wf, Below (boxM4 w (.slice ao m.length cap) x y).heap.size (boxM4 w (.slice ao m.length cap) x y) wf → RefM w wf (.slice ao m.length cap) x y) := fun wf hb => hW.later hb
 have hT := refTake_any _ m x c n (boxM4 w (.slice ao m.length cap) x y) (h.all hW.below) hw
 have hP := fun w1 => placeError_any y w1 hz
 have hG := Tryz.guardK
 have hE := fun W => eqK_run x y W
 have hwt := hw.take (x, c) n
 have HPu : Hid (∀ wf v1, RefS wf v1 (takeL m (x, c) n) → Calls Tryz.prog 62 #[.agg #[v1], agP y, .string c, .int .i64 n] wf fun e w' => ∃ v', e = .returned (.tuple #[.agg #[v'], .int .i64 (putE (takeL m (x, c) n) y c n)]) ∧ RefS w' v' (putL (takeL m (x, c) n) y c n) ∧ Below wf.heap.size wf w') := fun wf v1 hr => refPut_any v1 _ y c n wf hr hwt hz hz'
 rw [t0] at hT
 rw [h0] at hP
 rw [hf] at HPu
 rw [decide_eq_false hxy] at hE
 clear hxy hf hwt
 generalize putL (takeL m (x, c) n) y c n = M3 at *
 generalize takeL m (x, c) n = M1 at *
 obtain ⟨a, r, bb⟩ := x
 obtain ⟨a', r', bb'⟩ := y
 unfold agP boxM4 boxR at *
 simp only at *
 obtain ⟨f0, ⟨p0, p1, p2⟩, s0, s1, s2⟩ : _ ∧ _ ∧ _ := ⟨hW.cv, hW.bx, hW.by_⟩
 obtain ⟨g0, g1⟩ := hW.cells
 simp only at p0 p1 p2 s0 s1 s2
 have HT : Hid (Calls Tryz.prog 63 _ _ _) := hT
 clear hW h hw hT
 generalize hln : m.length = ln at *
 have HLn : Hid (m.length = ln) := hln
 clear hln
 go_enter Tryz.func64, Tryz.ntmps64
 go_wp2_with (first
  | (go_at_call 63; refine HT.out.mono ?_; rintro e w1 ⟨v1, rfl, hr1, hb1⟩; obtain ⟨ao1, k1, cp1, rfl⟩ := own_sliceN hr1; have hBa := hb1.alloc hb1.size (.cells #[.slice ao1 k1 cp1] 76); obtain ⟨qa0, qa1, qa2⟩ := (HK.out _ hBa).bx; obtain ⟨qb0, qb1, qb2⟩ := (HK.out _ hBa).by_; have qc := (HK.out _ hBa).cv; obtain ⟨qd, qe⟩ := (HK.out _ hBa).cells; simp only at qa0 qa1 qa2 qb0 qb1 qb2)
  | (go_at_call 42; refine (hP _).mono ?_; rintro e w2 ⟨rfl, hb2⟩; have hB2 := hBa.trans (hb2.mono hBa.size); obtain ⟨ra0, ra1, ra2⟩ := (HK.out _ hB2).bx; obtain ⟨rb0, rb1, rb2⟩ := (HK.out _ hB2).by_; have rc := (HK.out _ hB2).cv; obtain ⟨rd, re⟩ := (HK.out _ hB2).cells; have rq : w2.cell? ⟨w1.heap.size, 0, none⟩ = some (.slice ao1 k1 cp1) := (by rw [cell_of_heap ((hb2.block _ (by simp)).trans (heap_alloc_new w1 _))]; rfl); simp only at ra0 ra1 ra2 rb0 rb1 rb2)
  | (go_at_call 62; refine (HPu.out _ _ (hr1.all (((Below.refl _ w1).alloc (Nat.le_refl _) _).trans (hb2.mono (by simp))))).mono ?_; rintro e w3 ⟨v3, rfl, hr3, hb3⟩; obtain ⟨ao3, k3, cp3, rfl⟩ := own_sliceN hr3; have hB3 := hB2.trans (hb3.mono hB2.size); have hq3 : w3.heap[w1.heap.size]? = some (.cells #[.slice ao1 k1 cp1] 76 (0, 0)) := (hb3.block _ (Nat.lt_of_lt_of_le (by simp) hb2.size)).trans ((hb2.block _ (by simp)).trans (heap_alloc_new w1 _)); have hx3 : w3.cell? ⟨w1.heap.size, 0, none⟩ = some (.slice ao1 k1 cp1) := (by rw [cell_of_heap hq3]; rfl); have hy3 := frozen_of_heap hq3 0; have hB4 := hB3.setCell (p := ⟨w1.heap.size, 0, none⟩) hb1.size (.slice ao3 k3 cp3); have hz4 : (w3.setCell ⟨w1.heap.size, 0, none⟩ (.slice ao3 k3 cp3)).cell? ⟨w1.heap.size, 0, none⟩ = some (.slice ao3 k3 cp3) := (by rw [cell_of_heap (hr3.put hq3).2]; rfl); have tc := (HK.out _ hB4).cv; obtain ⟨td, te⟩ := (HK.out _ hB4).cells))
 refine bodyPost_ret (v := .tuple #[.agg #[(.slice ao3 k3 cp3)], .int .i64 0]) (by simp [results, Tryz.results64, go_sem, td]) rfl ?_
 obtain ⟨r1, r2⟩ := HFin.out _ _ _ ((hr3.put hq3).1) (hB4)
 exact ⟨_, rfl, r1, r2⟩
theorem refMove_any (v : Value) (m : List Ln) (x y : Pl) (c : ByteArray) (n : Int) (w : World) (h : RefS w v m) (hw : Wf m) (hz : y.1.size ≤ maxLen) (hz' : c.size ≤ maxLen) :
  Calls Tryz.prog 64 #[.agg #[v], agP x, agP y, .string c, .int .i64 n] w fun e w' => ∃ v', e = .returned (.tuple #[.agg #[v'], .int .i64 (moveE m x y c n)]) ∧ RefS w' v' (moveL m x y c n) ∧ Below w.heap.size w w' := by
 by_cases t0 : takeE m (x, c) n = 0
 ·by_cases h0 : placeErr y = 0
  ·by_cases hxy : x = y
   ·have e := moveE_shape t0 h0 hxy
    rw [moveL_err (by rw [e]; decide), e]
    exact refMove_shape v m x y c n w h hw hz t0 h0 hxy
   ·have e := moveE_full (m := m) t0 h0 hxy
    obtain ⟨p1, p2⟩ := move_parts hw t0 h0 hxy
    rw [← takeL_zero t0] at p1 p2
    by_cases hf : 200 < linesA m (x, c) (y, c) n
    ·rw [if_pos hf] at e p1
     rw [moveL_err (by rw [e]; decide), e]
     exact refMove_full v m x y c n w h hw hz hz' t0 h0 hxy p1
    ·rw [if_neg hf] at e p1
     have e2 : moveL m x y c n = putL (takeL m (x, c) n) y c n := by rw [moveL_zero e, putL_zero p1, p2, takeL_zero t0]
     rw [e2, e]
     exact refMove_in v m x y c n w h hw hz hz' t0 h0 hxy p1
  ·have e := moveE_place (m := m) t0 h0
   rw [moveL_err (by rw [e]; exact h0), e]
   exact refMove_place v m x y c n w h hw hz t0 h0
 ·have e := moveE_take (y := y) t0
  rw [moveL_err (by rw [e]; exact t0), e]
  exact refMove_take v m x y c n w h hw t0
end Go.Proofs.YtppodkkefegbkaaGreatDoor
