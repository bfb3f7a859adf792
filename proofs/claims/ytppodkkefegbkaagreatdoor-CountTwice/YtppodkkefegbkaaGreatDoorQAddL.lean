/-
 What addLot does: a lot comes; an error leaves the book as it was; no old block but the book's own is turned.
-/
import Derived.Test.YtppodkkefegbkaaGreatDoorJz31
set_option maxRecDepth 100000
set_option maxHeartbeats 16000000
namespace Go.Proofs.YtppodkkefegbkaaGreatDoor
open Go.RowKit Go.Lib Go.Sort
open Go.Maps (Keyed)
theorem BkAt.lot {V W : World} {B : Nat} {x : Bl} {ps bs : Nat} {b : Bk} (h : BkAt V B x ps bs b) {l : Lo} (h0 : lotBE b l = 0) (hg : MapL Tryz.prog 9 W x.l ((insC nameL b.2.1 (l, 0)).map entL)) (hu : MapL Tryz.prog 9 W x.h ((insC nameL b.2.1 (l, 0)).map entH)) (hk : ∀ c, c ≠ x.l → c ≠ x.h → W.heap[c]? = V.heap[c]?) : BkAt W B x ps bs (lotB b l) := by
 obtain ⟨⟨a1, a2, a3, a4, a5⟩, ⟨a6, a7, a8, a9⟩, d1, d2, d3, d4, d5, d6, d7, d8, d9, d10⟩ := h.apart
 exact { blk := (hk _ a3 a4).trans h.blk, G := h.G.of_block (hk _ d2 d3), U := h.U.of_block (hk _ d5 d6), L := hg, H := hu, sblk := (hk _ a8 a9).trans h.sblk, S := h.S.of_blocks (hk _ a8 a9) (hk _ d9.symm d10.symm), ok := h.ok.lot h0, bp := h.bp, bg := h.bg, gu := h.gu, ul := h.ul, lh := h.lh, hs := h.hs, bs := h.bs }
theorem addL_exist (l : Lo) (w : World) (s : Nat → Addr) (B : Nat) (x : Bl) (b : Bk) (h : IsBk w B x b) (hz : l.1.size ≤ maxLen) (hz' : l.2.1.size ≤ maxLen) (hs : Bs w s) (y : Lh) (hy : y ∈ b.2.1) (hyl : nameL y = l.1) :
  Calls Tryz.prog 36 #[.pointer (some ⟨x.p, 0, none⟩), agQ l] w fun e w' => e = .returned (errP s 7) ∧ IsBk w' B x b ∧ Off x.all w w' := by
 obtain ⟨li, lc, lu, lk⟩ := l
 simp only at *
 unfold agQ
 simp only
 have hb1 : Below w.heap.size w (w.alloc (.cells #[.string li, .string lc, .int .i64 lu, .int .i64 lk] 39)) := (Below.refl _ w).alloc (Nat.le_refl _) _
 have n1 := heap_alloc_new w (.cells #[.string li, .string lc, .int .i64 lu, .int .i64 lk] 39)
 obtain ⟨ps, bs, h⟩ := h
 have h1 := h.all hb1
 obtain ⟨W, hW⟩ : ∃ W, w.alloc (.cells #[.string li, .string lc, .int .i64 lu, .int .i64 lk] 39) = W := ⟨_, rfl⟩
 rw [hW] at hb1 n1 h1
 have hq := h1.drew.askL_yes hz hy hyl
 obtain ⟨⟨yi, yc, yu, yk⟩, yh⟩ := y
 simp only at hq
 obtain ⟨_, _, c0, _⟩ := h1.cells
 have c1 : W.cell? ⟨w.heap.size, 0, none⟩ = some (.string li) := by rw [cell_of_heap n1]; rfl
 obtain ⟨V1, V2, V3, V4, V5, e1, e2, e3, e4, e5, ⟨k1, k2, k3, k4, k5⟩, ⟨k6, k7⟩, ⟨k8, k9⟩, ⟨k10, k11⟩, _, kb1, kb5⟩ := boxed4 W.drew (.string ⟨#[]⟩) (.string ⟨#[]⟩) (.int .i64 0) (.int .i64 0) (.string yi) (.string yc) (.int .i64 yu) (.int .i64 yk) 39
 have zd : W.drew.heap.size = W.heap.size := rfl
 rw [zd] at e2 e3 e4 e5 k1 k2 k3 k4 k5 k6 k7 k8 k9 k10 k11
 have hbW : Below w.heap.size w V1 := hb1.trans (((Below.refl _ W).drew.trans (kb1.mono (Nat.le_refl _))).mono hb1.size)
 have hq1 := (h.all hbW).askL_yes hz hy hyl
 (try simp only at hq1)
 obtain ⟨_, _, c2, _⟩ := (h.all hbW).cells
 have c3 : V1.cell? ⟨w.heap.size, 0, none⟩ = some (.string li) := (kb1.cell (p := ⟨w.heap.size, 0, none⟩) (cell_lt c1)).trans c1
 have hbV : Below w.heap.size w V5 := hb1.trans (((Below.refl _ W).drew.trans (kb5.mono (Nat.le_refl _))).mono hb1.size)
 have n3 : V5.heap[w.heap.size]? = some (.cells #[.string li, .string lc, .int .i64 lu, .int .i64 lk] 39 (0, 0)) := (kb5.block _ (Array.getElem?_eq_some_iff.1 n1).1).trans n1
 have h3 := h.all hbV
 clear kb1 kb5 hbW h1 hb1 n1 zd
 have hsV : V5.cell? ⟨2, 0, none⟩ = some (err (s 6)) := (hs.below hbV).exist
 have HF : Hid (IsBk V5 B x b ∧ Off x.all w V5) := ⟨⟨ps, bs, h3⟩, Off.of_below hbV⟩
 clear hbV h3 n3 h hs
 go_enter Tryz.func36, Tryz.ntmps36
 go_wp2
 go_region
 go_wp2
 go_ret
 exact ⟨rfl, HF.out⟩
theorem addL_none (l : Lo) (w : World) (s : Nat → Addr) (B : Nat) (x : Bl) (b : Bk) (h : IsBk w B x b) (hz : l.1.size ≤ maxLen) (hz' : l.2.1.size ≤ maxLen) (hs : Bs w s) (hn : ∀ y ∈ b.2.1, nameL y ≠ l.1) (hng : ∀ y ∈ b.1, nameG y ≠ l.2.1) :
  Calls Tryz.prog 36 #[.pointer (some ⟨x.p, 0, none⟩), agQ l] w fun e w' => e = .returned (errP s 6) ∧ IsBk w' B x b ∧ Off x.all w w' := by
 obtain ⟨li, lc, lu, lk⟩ := l
 simp only at *
 unfold agQ
 simp only
 have hb1 : Below w.heap.size w (w.alloc (.cells #[.string li, .string lc, .int .i64 lu, .int .i64 lk] 39)) := (Below.refl _ w).alloc (Nat.le_refl _) _
 have n1 := heap_alloc_new w (.cells #[.string li, .string lc, .int .i64 lu, .int .i64 lk] 39)
 obtain ⟨ps, bs, h⟩ := h
 have h1 := h.all hb1
 obtain ⟨W, hW⟩ : ∃ W, w.alloc (.cells #[.string li, .string lc, .int .i64 lu, .int .i64 lk] 39) = W := ⟨_, rfl⟩
 rw [hW] at hb1 n1 h1
 have hq := h1.drew.askL_no hz hn
 obtain ⟨_, _, c0, _⟩ := h1.cells
 have c1 : W.cell? ⟨w.heap.size, 0, none⟩ = some (.string li) := by rw [cell_of_heap n1]; rfl
 obtain ⟨V1, V2, V3, V4, V5, e1, e2, e3, e4, e5, ⟨k1, k2, k3, k4, k5⟩, ⟨k6, k7⟩, ⟨k8, k9⟩, ⟨k10, k11⟩, _, kb1, kb5⟩ := boxed4 W.drew (.string ⟨#[]⟩) (.string ⟨#[]⟩) (.int .i64 0) (.int .i64 0) (.string ⟨#[]⟩) (.string ⟨#[]⟩) (.int .i64 0) (.int .i64 0) 39
 have zd : W.drew.heap.size = W.heap.size := rfl
 rw [zd] at e2 e3 e4 e5 k1 k2 k3 k4 k5 k6 k7 k8 k9 k10 k11
 have hbW : Below w.heap.size w V1 := hb1.trans (((Below.refl _ W).drew.trans (kb1.mono (Nat.le_refl _))).mono hb1.size)
 have hq1 := (h.all hbW).askL_no hz hn
 (try simp only at hq1)
 obtain ⟨_, _, c2, _⟩ := (h.all hbW).cells
 have c3 : V1.cell? ⟨w.heap.size, 0, none⟩ = some (.string li) := (kb1.cell (p := ⟨w.heap.size, 0, none⟩) (cell_lt c1)).trans c1
 have hbV : Below w.heap.size w V5 := hb1.trans (((Below.refl _ W).drew.trans (kb5.mono (Nat.le_refl _))).mono hb1.size)
 have n3 : V5.heap[w.heap.size]? = some (.cells #[.string li, .string lc, .int .i64 lu, .int .i64 lk] 39 (0, 0)) := (kb5.block _ (Array.getElem?_eq_some_iff.1 n1).1).trans n1
 have h3 := h.all hbV
 clear kb1 kb5 hbW h1 hb1 n1 zd
 have hg := h3.drew.askG_no hz' hng
 obtain ⟨f0, _, _, _⟩ := h3.drew.cells
 have n3d : V5.drew.heap[w.heap.size]? = some (.cells #[.string li, .string lc, .int .i64 lu, .int .i64 lk] 39 (0, 0)) := n3
 have f1 : V5.drew.cell? ⟨w.heap.size, 1, none⟩ = some (.string lc) := by rw [cell_of_heap n3d]; rfl
 obtain ⟨U1, U2, U3, g1, g2, g3, ⟨j1, j2, j3⟩, ⟨j4, j5⟩, _, jb1, jb2, jb3⟩ := boxed2 V5.drew (.string ⟨#[]⟩) (.int .i64 0) (.string ⟨#[]⟩) (.int .i64 0) 37
 have zd : V5.drew.heap.size = V5.heap.size := rfl
 rw [zd] at g2 g3 j1 j2 j3 j4 j5
 have hbU1 : Below w.heap.size w U1 := hbV.drew.trans (jb1.mono hbV.size)
 have hbU : Below w.heap.size w U3 := hbV.drew.trans (jb3.mono hbV.size)
 have hg1 := (h.all hbU1).askG_no hz' hng
 (try simp only at hg1)
 obtain ⟨f2, _, _, _⟩ := (h.all hbU1).cells
 have f3 : U1.cell? ⟨w.heap.size, 1, none⟩ = some (.string lc) := (jb1.cell (p := ⟨w.heap.size, 1, none⟩) (cell_lt f1)).trans f1
 have n4 : U3.heap[w.heap.size]? = some (.cells #[.string li, .string lc, .int .i64 lu, .int .i64 lk] 39 (0, 0)) := (jb3.block _ (Array.getElem?_eq_some_iff.1 n3d).1).trans n3d
 have h4 := h.all hbU
 have hsV : U3.cell? ⟨1, 0, none⟩ = some (err (s 5)) := (hs.below hbU).none_
 have HF : Hid (IsBk U3 B x b ∧ Off x.all w U3) := ⟨⟨ps, bs, h4⟩, Off.of_below hbU⟩
 clear hbV hbU hbU1 jb1 jb2 jb3 h3 h4 n3 n3d n4 h hs zd hn hng
 go_enter Tryz.func36, Tryz.ntmps36
 go_wp2
 go_region
 go_wp2
 go_region
 go_wp2
 go_ret
 exact ⟨rfl, HF.out⟩
theorem addL_full (l : Lo) (w : World) (s : Nat → Addr) (B : Nat) (x : Bl) (b : Bk) (h : IsBk w B x b) (hz : l.1.size ≤ maxLen) (hz' : l.2.1.size ≤ maxLen) (hs : Bs w s) (hn : ∀ y ∈ b.2.1, nameL y ≠ l.1) (y : Gs) (hy : y ∈ b.1) (hyg : nameG y = l.2.1) (hf : 60 ≤ b.2.1.length) :
  Calls Tryz.prog 36 #[.pointer (some ⟨x.p, 0, none⟩), agQ l] w fun e w' => e = .returned (errP s 8) ∧ IsBk w' B x b ∧ Off x.all w w' := by
 obtain ⟨li, lc, lu, lk⟩ := l
 simp only at *
 unfold agQ
 simp only
 have hb1 : Below w.heap.size w (w.alloc (.cells #[.string li, .string lc, .int .i64 lu, .int .i64 lk] 39)) := (Below.refl _ w).alloc (Nat.le_refl _) _
 have n1 := heap_alloc_new w (.cells #[.string li, .string lc, .int .i64 lu, .int .i64 lk] 39)
 obtain ⟨ps, bs, h⟩ := h
 have h1 := h.all hb1
 obtain ⟨W, hW⟩ : ∃ W, w.alloc (.cells #[.string li, .string lc, .int .i64 lu, .int .i64 lk] 39) = W := ⟨_, rfl⟩
 rw [hW] at hb1 n1 h1
 have hq := h1.drew.askL_no hz hn
 obtain ⟨_, _, c0, _⟩ := h1.cells
 have c1 : W.cell? ⟨w.heap.size, 0, none⟩ = some (.string li) := by rw [cell_of_heap n1]; rfl
 obtain ⟨V1, V2, V3, V4, V5, e1, e2, e3, e4, e5, ⟨k1, k2, k3, k4, k5⟩, ⟨k6, k7⟩, ⟨k8, k9⟩, ⟨k10, k11⟩, _, kb1, kb5⟩ := boxed4 W.drew (.string ⟨#[]⟩) (.string ⟨#[]⟩) (.int .i64 0) (.int .i64 0) (.string ⟨#[]⟩) (.string ⟨#[]⟩) (.int .i64 0) (.int .i64 0) 39
 have zd : W.drew.heap.size = W.heap.size := rfl
 rw [zd] at e2 e3 e4 e5 k1 k2 k3 k4 k5 k6 k7 k8 k9 k10 k11
 have hbW : Below w.heap.size w V1 := hb1.trans (((Below.refl _ W).drew.trans (kb1.mono (Nat.le_refl _))).mono hb1.size)
 have hq1 := (h.all hbW).askL_no hz hn
 (try simp only at hq1)
 obtain ⟨_, _, c2, _⟩ := (h.all hbW).cells
 have c3 : V1.cell? ⟨w.heap.size, 0, none⟩ = some (.string li) := (kb1.cell (p := ⟨w.heap.size, 0, none⟩) (cell_lt c1)).trans c1
 have hbV : Below w.heap.size w V5 := hb1.trans (((Below.refl _ W).drew.trans (kb5.mono (Nat.le_refl _))).mono hb1.size)
 have n3 : V5.heap[w.heap.size]? = some (.cells #[.string li, .string lc, .int .i64 lu, .int .i64 lk] 39 (0, 0)) := (kb5.block _ (Array.getElem?_eq_some_iff.1 n1).1).trans n1
 have h3 := h.all hbV
 clear kb1 kb5 hbW h1 hb1 n1 zd
 have hg := h3.drew.askG_yes hz' hy hyg
 obtain ⟨⟨yc, yp⟩, ys⟩ := y
 simp only at hg
 obtain ⟨f0, _, _, _⟩ := h3.drew.cells
 have n3d : V5.drew.heap[w.heap.size]? = some (.cells #[.string li, .string lc, .int .i64 lu, .int .i64 lk] 39 (0, 0)) := n3
 have f1 : V5.drew.cell? ⟨w.heap.size, 1, none⟩ = some (.string lc) := by rw [cell_of_heap n3d]; rfl
 obtain ⟨U1, U2, U3, g1, g2, g3, ⟨j1, j2, j3⟩, ⟨j4, j5⟩, _, jb1, jb2, jb3⟩ := boxed2 V5.drew (.string ⟨#[]⟩) (.int .i64 0) (.string yc) (.int .i64 yp) 37
 have zd : V5.drew.heap.size = V5.heap.size := rfl
 rw [zd] at g2 g3 j1 j2 j3 j4 j5
 have hbU1 : Below w.heap.size w U1 := hbV.drew.trans (jb1.mono hbV.size)
 have hbU : Below w.heap.size w U3 := hbV.drew.trans (jb3.mono hbV.size)
 have hg1 := (h.all hbU1).askG_yes hz' hy hyg
 (try simp only at hg1)
 obtain ⟨f2, _, _, _⟩ := (h.all hbU1).cells
 have f3 : U1.cell? ⟨w.heap.size, 1, none⟩ = some (.string lc) := (jb1.cell (p := ⟨w.heap.size, 1, none⟩) (cell_lt f1)).trans f1
 have n4 : U3.heap[w.heap.size]? = some (.cells #[.string li, .string lc, .int .i64 lu, .int .i64 lk] 39 (0, 0)) := (jb3.block _ (Array.getElem?_eq_some_iff.1 n3d).1).trans n3d
 have h4 := h.all hbU
 have hm := h4.L
 obtain ⟨ln, hln⟩ : ∃ ln, (b.2.1.map entL).length = ln := ⟨_, rfl⟩
 obtain ⟨_, _, f4, _⟩ := h4.cells
 have hl60 : 60 ≤ ln := by rw [← hln]; simpa using hf
 have hl99 : ln ≤ 60 := by rw [← hln]; simpa using h.ok.wf.ll
 have hsV : U3.cell? ⟨3, 0, none⟩ = some (err (s 7)) := (hs.below hbU).five.full
 have HF : Hid (IsBk U3 B x b ∧ Off x.all w U3) := ⟨⟨ps, bs, h4⟩, Off.of_below hbU⟩
 clear hbV hbU hbU1 jb1 jb2 jb3 h3 h4 n3 n3d n4 h hs zd hn hf
 go_enter Tryz.func36, Tryz.ntmps36
 go_wp2
 go_region
 go_wp2
 go_region
 go_wp2_with (at_len; refine wpL_len rfl _ 89 rfl 9 39 Tryz.underlying89 x.l _ ln hln rfl hm ?_)
 go_ret
 exact ⟨rfl, HF.out⟩
theorem addL_ok (l : Lo) (w : World) (s : Nat → Addr) (B : Nat) (x : Bl) (b : Bk) (h : IsBk w B x b) (hz : l.1.size ≤ maxLen) (hz' : l.2.1.size ≤ maxLen) (hn : ∀ y ∈ b.2.1, nameL y ≠ l.1) (y : Gs) (hy : y ∈ b.1) (hyg : nameG y = l.2.1) (hf : b.2.1.length < 60) (h0 : lotBE b l = 0) :
  Calls Tryz.prog 36 #[.pointer (some ⟨x.p, 0, none⟩), agQ l] w fun e w' => e = .returned (errP s 0) ∧ IsBk w' B x (lotB b l) ∧ Off x.all w w' := by
 obtain ⟨li, lc, lu, lk⟩ := l
 simp only at *
 unfold agQ
 simp only
 have hb1 : Below w.heap.size w (w.alloc (.cells #[.string li, .string lc, .int .i64 lu, .int .i64 lk] 39)) := (Below.refl _ w).alloc (Nat.le_refl _) _
 have n1 := heap_alloc_new w (.cells #[.string li, .string lc, .int .i64 lu, .int .i64 lk] 39)
 obtain ⟨ps, bs, h⟩ := h
 have h1 := h.all hb1
 obtain ⟨W, hW⟩ : ∃ W, w.alloc (.cells #[.string li, .string lc, .int .i64 lu, .int .i64 lk] 39) = W := ⟨_, rfl⟩
 rw [hW] at hb1 n1 h1
 have hq := h1.drew.askL_no hz hn
 obtain ⟨_, _, c0, _⟩ := h1.cells
 have c1 : W.cell? ⟨w.heap.size, 0, none⟩ = some (.string li) := by rw [cell_of_heap n1]; rfl
 obtain ⟨V1, V2, V3, V4, V5, e1, e2, e3, e4, e5, ⟨k1, k2, k3, k4, k5⟩, ⟨k6, k7⟩, ⟨k8, k9⟩, ⟨k10, k11⟩, _, kb1, kb5⟩ := boxed4 W.drew (.string ⟨#[]⟩) (.string ⟨#[]⟩) (.int .i64 0) (.int .i64 0) (.string ⟨#[]⟩) (.string ⟨#[]⟩) (.int .i64 0) (.int .i64 0) 39
 have zd : W.drew.heap.size = W.heap.size := rfl
 rw [zd] at e2 e3 e4 e5 k1 k2 k3 k4 k5 k6 k7 k8 k9 k10 k11
 have hbW : Below w.heap.size w V1 := hb1.trans (((Below.refl _ W).drew.trans (kb1.mono (Nat.le_refl _))).mono hb1.size)
 have hq1 := (h.all hbW).askL_no hz hn
 (try simp only at hq1)
 obtain ⟨_, _, c2, _⟩ := (h.all hbW).cells
 have c3 : V1.cell? ⟨w.heap.size, 0, none⟩ = some (.string li) := (kb1.cell (p := ⟨w.heap.size, 0, none⟩) (cell_lt c1)).trans c1
 have hbV : Below w.heap.size w V5 := hb1.trans (((Below.refl _ W).drew.trans (kb5.mono (Nat.le_refl _))).mono hb1.size)
 have n3 : V5.heap[w.heap.size]? = some (.cells #[.string li, .string lc, .int .i64 lu, .int .i64 lk] 39 (0, 0)) := (kb5.block _ (Array.getElem?_eq_some_iff.1 n1).1).trans n1
 have h3 := h.all hbV
 clear kb1 kb5 hbW h1 hb1 n1 zd
 have hg := h3.drew.askG_yes hz' hy hyg
 obtain ⟨⟨yc, yp⟩, ys⟩ := y
 simp only at hg
 obtain ⟨f0, _, _, _⟩ := h3.drew.cells
 have n3d : V5.drew.heap[w.heap.size]? = some (.cells #[.string li, .string lc, .int .i64 lu, .int .i64 lk] 39 (0, 0)) := n3
 have f1 : V5.drew.cell? ⟨w.heap.size, 1, none⟩ = some (.string lc) := by rw [cell_of_heap n3d]; rfl
 obtain ⟨U1, U2, U3, g1, g2, g3, ⟨j1, j2, j3⟩, ⟨j4, j5⟩, _, jb1, jb2, jb3⟩ := boxed2 V5.drew (.string ⟨#[]⟩) (.int .i64 0) (.string yc) (.int .i64 yp) 37
 have zd : V5.drew.heap.size = V5.heap.size := rfl
 rw [zd] at g2 g3 j1 j2 j3 j4 j5
 have hbU1 : Below w.heap.size w U1 := hbV.drew.trans (jb1.mono hbV.size)
 have hbU : Below w.heap.size w U3 := hbV.drew.trans (jb3.mono hbV.size)
 have hg1 := (h.all hbU1).askG_yes hz' hy hyg
 (try simp only at hg1)
 obtain ⟨f2, _, _, _⟩ := (h.all hbU1).cells
 have f3 : U1.cell? ⟨w.heap.size, 1, none⟩ = some (.string lc) := (jb1.cell (p := ⟨w.heap.size, 1, none⟩) (cell_lt f1)).trans f1
 have n4 : U3.heap[w.heap.size]? = some (.cells #[.string li, .string lc, .int .i64 lu, .int .i64 lk] 39 (0, 0)) := (jb3.block _ (Array.getElem?_eq_some_iff.1 n3d).1).trans n3d
 have h4 := h.all hbU
 have hm := h4.L
 obtain ⟨ln, hln⟩ : ∃ ln, (b.2.1.map entL).length = ln := ⟨_, rfl⟩
 obtain ⟨_, _, f4, _⟩ := h4.cells
 have hl60 : ln < 60 := by rw [← hln]; simpa using hf
 obtain ⟨⟨a1, a2, a3, a4, a5⟩, ⟨a6, a7, a8, a9⟩, d1, d2, d3, d4, d5, d6, d7, d8, d9, d10⟩ := h.apart
 have hpL := ((insC_perm nameL b.2.1 ((li, lc, lu, lk), 0)).map entL).symm
 have hpH := ((insC_perm nameL b.2.1 ((li, lc, lu, lk), 0)).map entH).symm
 have E1 : EntSt Tryz.prog 9 89 U3.drew x.l (.string li) (.agg #[.string li, .string lc, .int .i64 lu, .int .i64 lk]) ((insC nameL b.2.1 ((li, lc, lu, lk), 0)).map entL) :=
  EntSt.new Tryz.keyedS Tryz.underlying89 (keyS hz) (h4.L.of_block (w' := U3.drew) rfl) Tryz.zeroValue39 (fun v hv => by obtain ⟨y, hy, e, _⟩ := mem_entL hv; exact hn y hy e) _ hpL
 have E2 : ∀ V, MapL Tryz.prog 9 V x.h (b.2.1.map entH) → EntSt Tryz.prog 9 90 V x.h (.string li) (.int .i64 0) ((insC nameL b.2.1 ((li, lc, lu, lk), 0)).map entH) := fun V hV =>
  EntSt.new Tryz.keyedS Tryz.underlying90 (keyS hz) hV Tryz.zeroValue3 (fun v hv => by obtain ⟨y, hy, e, _⟩ := mem_entH hv; exact hn y hy e) _ hpH
 obtain ⟨st, z, w2, w3, st', z', w4, w5, r1, r2, r3, r4, r5, r6, r7, r8⟩ := two_ents E1 (h4.H.of_block (w' := U3.drew) rfl) E2 d8
 have n4d : U3.drew.heap[w.heap.size]? = some (.cells #[.string li, .string lc, .int .i64 lu, .int .i64 lk] 39 (0, 0)) := n4
 have nq : w.heap.size ≠ x.l ∧ w.heap.size ≠ x.h := by have := h.lts; omega
 obtain ⟨o2, o3, o4, o5⟩ := r7 _ nq.1 nq.2
 obtain ⟨p2, p3, p4, p5⟩ := r7 _ a3 a4
 have mU30 : U3.drew.cell? ⟨w.heap.size, 0, none⟩ = some (.string li) := by rw [cell_of_heap n4d]; rfl
 have mU31 : U3.drew.cell? ⟨w.heap.size, 1, none⟩ = some (.string lc) := by rw [cell_of_heap n4d]; rfl
 have mU32 : U3.drew.cell? ⟨w.heap.size, 2, none⟩ = some (.int .i64 lu) := by rw [cell_of_heap n4d]; rfl
 have mU33 : U3.drew.cell? ⟨w.heap.size, 3, none⟩ = some (.int .i64 lk) := by rw [cell_of_heap n4d]; rfl
 have mw20 : w2.cell? ⟨w.heap.size, 0, none⟩ = some (.string li) := by rw [cell_of_heap (o2.trans n4d)]; rfl
 have mw21 : w2.cell? ⟨w.heap.size, 1, none⟩ = some (.string lc) := by rw [cell_of_heap (o2.trans n4d)]; rfl
 have mw22 : w2.cell? ⟨w.heap.size, 2, none⟩ = some (.int .i64 lu) := by rw [cell_of_heap (o2.trans n4d)]; rfl
 have mw23 : w2.cell? ⟨w.heap.size, 3, none⟩ = some (.int .i64 lk) := by rw [cell_of_heap (o2.trans n4d)]; rfl
 have mw30 : w3.cell? ⟨w.heap.size, 0, none⟩ = some (.string li) := by rw [cell_of_heap (o3.trans n4d)]; rfl
 have mw31 : w3.cell? ⟨w.heap.size, 1, none⟩ = some (.string lc) := by rw [cell_of_heap (o3.trans n4d)]; rfl
 have mw32 : w3.cell? ⟨w.heap.size, 2, none⟩ = some (.int .i64 lu) := by rw [cell_of_heap (o3.trans n4d)]; rfl
 have mw33 : w3.cell? ⟨w.heap.size, 3, none⟩ = some (.int .i64 lk) := by rw [cell_of_heap (o3.trans n4d)]; rfl
 have hd := h4.drew.blk
 have y0 : U3.drew.cell? ⟨x.p, 2, none⟩ = some (.map (some x.l)) := by rw [cell_of_heap hd]; rfl
 have y1 : U3.drew.cell? ⟨x.p, 3, none⟩ = some (.map (some x.h)) := by rw [cell_of_heap hd]; rfl
 have y2 : w2.cell? ⟨x.p, 3, none⟩ = some (.map (some x.h)) := by rw [cell_of_heap (p2.trans hd)]; rfl
 have y3 : w3.cell? ⟨x.p, 3, none⟩ = some (.map (some x.h)) := by rw [cell_of_heap (p3.trans hd)]; rfl
 have HF : Hid (IsBk w5 B x (lotB b (li, lc, lu, lk)) ∧ Off x.all w w5) := by
  refine ⟨⟨ps, bs, h4.drew.lot h0 r5 r6 fun c h1 h2 => (r7 c h1 h2).2.2.2⟩, ?_⟩
  have q1 : Off x.all w U3.drew := Off.of_below hbU.drew
  exact q1.trans (r8.mono (by simp [Bl.all]))
 clear hbV hbU hbU1 jb1 jb2 jb3 h3 h4 n3 n3d n4 n4d h zd hn hf r5 r6 r7 r8 E1 E2 hpL hpH hd p2 p3 p4 p5 o2 o3 o4 o5
 go_enter Tryz.func36, Tryz.ntmps36
 go_wp2
 go_region
 go_wp2
 go_region
 go_wp2_with (at_len; refine wpL_len rfl _ 89 rfl 9 39 Tryz.underlying89 x.l _ ln hln rfl hm ?_)
 go_region
 go_wp2
 go_ret
 exact ⟨rfl, HF.out⟩
theorem addGoods_any (g : Gd) (w : World) (s : Nat → Addr) (B : Nat) (x : Bl) (b : Bk) (h : IsBk w B x b) (hz : g.1.size ≤ maxLen) (hs : Bs w s) :
  Calls Tryz.prog 35 #[.pointer (some ⟨x.p, 0, none⟩), agG g] w fun e w' => e = .returned (errP s (goodsE b g)) ∧ IsBk w' B x (if goodsE b g = 0 then goodsB b g else b) ∧ Off x.all w w' := by
 rcases findI_cases nameG b.1 g.1 with ⟨e, hn⟩ | ⟨i, y, e, hi, hy⟩
 ·by_cases hf : 30 ≤ b.1.length
  ·have h0 : goodsE b g = 8 := by unfold goodsE; rw [e, if_neg (by decide), if_pos hf]
   rw [h0]
   exact addG_full g w s B x b h hz hs hn hf
  ·have h0 : goodsE b g = 0 := by unfold goodsE; rw [e, if_neg (by decide), if_neg hf]
   rw [if_pos h0, h0]
   exact addG_ok g w s B x b h hz hn (by omega) h0
 ·have h0 : goodsE b g = 7 := by unfold goodsE; rw [e, if_pos (by omega)]
  rw [h0]
  exact addG_exist g w s B x b h hz hs y (List.mem_of_getElem? hi) hy
theorem addLot_any (l : Lo) (w : World) (s : Nat → Addr) (B : Nat) (x : Bl) (b : Bk) (h : IsBk w B x b) (hz : l.1.size ≤ maxLen) (hz' : l.2.1.size ≤ maxLen) (hs : Bs w s) :
  Calls Tryz.prog 36 #[.pointer (some ⟨x.p, 0, none⟩), agQ l] w fun e w' => e = .returned (errP s (lotBE b l)) ∧ IsBk w' B x (if lotBE b l = 0 then lotB b l else b) ∧ Off x.all w w' := by
 rcases findI_cases nameL b.2.1 l.1 with ⟨e, hn⟩ | ⟨i, y, e, hi, hy⟩
 ·rcases findI_cases nameG b.1 l.2.1 with ⟨e', hng⟩ | ⟨j, z, e', hj, hz2⟩
  ·have h0 : lotBE b l = 6 := by unfold lotBE; rw [e, e', if_neg (by decide), if_pos (by decide)]
   rw [h0]
   exact addL_none l w s B x b h hz hz' hs hn hng
  ·by_cases hf : 60 ≤ b.2.1.length
   ·have h0 : lotBE b l = 8 := by unfold lotBE; rw [e, e', if_neg (by decide), if_neg (by omega), if_pos hf]
    rw [h0]
    exact addL_full l w s B x b h hz hz' hs hn z (List.mem_of_getElem? hj) hz2 hf
   ·have h0 : lotBE b l = 0 := by unfold lotBE; rw [e, e', if_neg (by decide), if_neg (by omega), if_neg hf]
    rw [if_pos h0, h0]
    exact addL_ok l w s B x b h hz hz' hn z (List.mem_of_getElem? hj) hz2 (by omega) h0
 ·have h0 : lotBE b l = 7 := by unfold lotBE; rw [e, if_pos (by omega)]
  rw [h0]
  exact addL_exist l w s B x b h hz hz' hs y (List.mem_of_getElem? hi) hy
end Go.Proofs.YtppodkkefegbkaaGreatDoor
