/-
 What turn does: pieces of a lot come, go, move, are held or free; an error leaves the book as it was; no old block but the book's own is turned.
-/
import Derived.Test.YtppodkkefegbkaaGreatDoorJz26
import Derived.Deep.RegionHeld3
set_option maxRecDepth 100000
set_option maxHeartbeats 16000000
namespace Go.Proofs.YtppodkkefegbkaaGreatDoor
open Go.RowKit Go.Lib Go.Sort
theorem turn_ok (w : World) (s : Nat → Addr) (B : Nat) (x : Bl) (b : Bk) (e : En) (h : IsBk w B x b) (hz : SzE e) (hs : Bs w s) (k i : Nat) (l : Lh) (g : Gs) (hl : b.2.1[k]? = some l) (hid : nameL l = e.2.2.1.1) (hg : b.1[i]? = some g) (hgn : nameG g = l.1.2.1) (he : entErr e = 0) (h1 : e.1 ≠ kGoods) (h2 : e.1 ≠ kLot) (hc : stkE e b.2.2 = 0) (hh : 0 ≤ heldN e.1 l.2 e.2.2.2.2.2) (ho : heldN e.1 l.2 e.2.2.2.2.2 ≤ ofL (stkL e b.2.2) e.2.2.1.1) (hu : okSu (addSu e.1 g.2 e.2.2.2.2.2) = true) :
  Calls Tryz.prog 37 #[.pointer (some ⟨x.p, 0, none⟩), agE e] w fun r w' => r = .returned (errP s (0)) ∧ IsBk w' B x (pieceB b e k l i g) ∧ Off x.all w w' := by
 obtain ⟨ps, bs, h⟩ := h
 have hE := BlkE.new w e
 have hb1 : Below w.heap.size w (w.alloc (celE e)) := (Below.refl _ w).alloc (Nat.le_refl _) _
 obtain ⟨W, hW⟩ : ∃ W, w.alloc (celE e) = W := ⟨_, rfl⟩
 rw [hW] at hE hb1
 have hB1 := h.all hb1
 have hlm := List.mem_of_getElem? hl
 have hgm := List.mem_of_getElem? hg
 have hq := hB1.askL_yes hz.li hlm hid
 obtain ⟨V1, V2, V3, V4, V5, e1, e2, e3, e4, e5, ⟨k1, k2, k3, k4, k5⟩, ⟨k6, k7⟩, ⟨k8, k9⟩, ⟨k10, k11⟩, n5, kb1, kb5⟩ := boxed4 W (.string ⟨#[]⟩) (.string ⟨#[]⟩) (.int .i64 0) (.int .i64 0) (.string l.1.1) (.string l.1.2.1) (.int .i64 l.1.2.2.1) (.int .i64 l.1.2.2.2) 39
 have hbV : Below w.heap.size w V5 := hb1.trans (kb5.mono hb1.size)
 have hT : Tw w V5.drew B x ps bs b e W.heap.size l.1 := Tw.drew ⟨hbV, h.all hbV, hE.below kb5, n5, hb1.size⟩
 have hC1 := stockAfter_any V5.drew s ps bs b.2.2 e hT.book.S hz (hs.below hT.below).five he h1 h2
 have hnum := piece_num he h1 h2
 have hsum := h.ok.wf.sums g hgm
 have hheld := h.ok.wf.held l hlm
 have hheld2 : l.2 ≤ 1099511627776 := Int.le_trans hheld.2 (h.ok.wf.st.most _)
 rw [hc, errP_zero] at hC1
 have HH : Hid (∀ W, Calls Tryz.prog 69 #[.int .i64 l.2, agE e] W fun r w' => r = .returned (.int .i64 (heldN e.1 l.2 e.2.2.2.2.2)) ∧ Below W.heap.size W w') := fun W => heldAfter_any l.2 e W ⟨hheld.1, hheld2⟩ hnum
 have HLH : Hid (∀ W, Tw w W B x ps bs b e W.heap.size l.1 ∨ BkAt W B x ps bs b → (Instr.lookup 90 (.map (some x.h)) (.string e.2.2.1.1) false).run Tryz.prog W = .ok (.int .i64 l.2) W) := fun W hW => (hW.elim Tw.book id).lookH hz.li hlm hid
 have HO : Hid (∀ W p' b', IsStock W p' b' (stkL e b.2.2) → Calls Tryz.prog 70 #[.pointer (some ⟨p', 0, none⟩), .string e.2.2.1.1] W fun r w' => r = .returned (.int .i64 (ofL (stkL e b.2.2) e.2.2.1.1)) ∧ Below W.heap.size W w') := fun W p' b' hi => of_any e.2.2.1.1 W p' b' (stkL e b.2.2) hi
 have hcz : l.1.2.1.size ≤ maxLen := by
  obtain ⟨kl, hkl⟩ := h.G.keys _ (List.mem_map.2 ⟨g, hgm, rfl⟩)
  have hss : g.1.1.size ≤ maxLen := by
   simp only [entG] at hkl
   exact keyS_size hkl
  rw [← hgn]; exact hss
 have HU : Hid (∀ W, Calls Tryz.prog 71 #[agU g.2, agE e] W fun r w' => r = .returned (agU (addSu e.1 g.2 e.2.2.2.2.2)) ∧ Below W.heap.size W w') := fun W => sumsAfter_any g.2 e W hsum hnum
 have HLU : Hid (∀ W, BkAt W B x ps bs b → (Instr.lookup 88 (.map (some x.u)) (.string l.1.2.1) false).run Tryz.prog W = .ok (.agg #[.int .i64 g.2.1, .int .i64 g.2.2.1, .int .i64 g.2.2.2.1, .int .i64 g.2.2.2.2]) W) := fun W hW => hW.lookU hcz hgm hgn
 have HWl : Hid (∀ W, Calls Tryz.prog 72 #[agU (addSu e.1 g.2 e.2.2.2.2.2)] W fun r w' => r = .returned (.bool true) ∧ Below W.heap.size W w') := fun W => hu ▸ well_any _ W
 have HL : Hid (∀ W w0 p' b', Tw w W B x ps bs b e w0 l.1 → ∀ w9, NewSt w9 W p' b' (stkL e b.2.2) → w.heap.size ≤ w9.heap.size → _) := fun W w0 p' b' ht w9 hn hw => ht.last h hn hw hz hl hid hg hgn hcz (by have := hnum.1; omega) (by unfold pieceE; rw [if_pos hc, if_neg (by omega), if_pos hu])
 have HSs : Hid (∀ W, Below w.heap.size w W → Bs W s) := fun W hb => hs.below hb
 have c3 := hE.at.c3
 obtain ⟨_, _, p2, _⟩ := hB1.cells
 have p4 := hT.book.cells.2.2.2.2.1
 obtain ⟨t0, t1, t2, t3, t4, t5, t6, t7, t8, t9, t10, t11, t12, t13⟩ := hT.ent.at; (try simp only at t0 t1 t2 t3 t4 t5 t6 t7 t8 t9 t10 t11 t12 t13)
 have HT : Hid (Tw _ _ _ _ _ _ _ _ _ _) := hT
 have HC1 : Hid (Calls Tryz.prog 68 _ _ _) := hC1
 have HV : Hid (w.heap.size ≤ V5.drew.heap.size) := hbV.size
 generalize hHN : heldN e.1 l.2 e.2.2.2.2.2 = hd at *
 generalize hON : ofL (stkL e b.2.2) e.2.2.1.1 = od at *
 clear kb1 kb5 hbV hb1 hB1 hE h hs hz hT hC1 hnum hsum hheld hheld2 hlm hgm hl hg hid hgn he h1 h2 hc n5 hcz
 obtain ⟨ak, ⟨agc, agp⟩, ⟨ali, alc, alu, alk⟩, ⟨afz, afr, afb⟩, ⟨atz, atr, atb⟩, an⟩ := e
 obtain ⟨⟨lli, llc, llu, llk⟩, lh⟩ := l
 generalize hSN : addSu ak g.2 an = su at *
 obtain ⟨⟨ggc, ggp⟩, g1, g2, g3, g4⟩ := g
 obtain ⟨s1, s2, s3, s4⟩ := su
 unfold agE celE agU at *
 simp only at *
 go_enter Tryz.func37, Tryz.ntmps37
 go_wp2_with (at_lookup; refine wpL_ask rfl _ _ 89 rfl x.l _ _ rfl rfl hq ?_)
 go_region_held3 (fun w' => w'.cell? ⟨x.p, 4, none⟩ = some (.pointer (some ⟨ps, 0, none⟩)) ∧ w'.cell? ⟨w.heap.size, 0, none⟩ = some (.string ak) ∧ w'.cell? ⟨w.heap.size, 1, none⟩ = some (.string agc) ∧ w'.cell? ⟨w.heap.size, 2, none⟩ = some (.int .i64 agp) ∧ w'.cell? ⟨w.heap.size, 3, none⟩ = some (.string ali) ∧ w'.cell? ⟨w.heap.size, 4, none⟩ = some (.string alc) ∧ w'.cell? ⟨w.heap.size, 5, none⟩ = some (.int .i64 alu) ∧ w'.cell? ⟨w.heap.size, 6, none⟩ = some (.int .i64 alk) ∧ w'.cell? ⟨w.heap.size, 7, none⟩ = some (.string afz) ∧ w'.cell? ⟨w.heap.size, 8, none⟩ = some (.int .i64 afr) ∧ w'.cell? ⟨w.heap.size, 9, none⟩ = some (.int .i64 afb) ∧ w'.cell? ⟨w.heap.size, 10, none⟩ = some (.string atz) ∧ w'.cell? ⟨w.heap.size, 11, none⟩ = some (.int .i64 atr) ∧ w'.cell? ⟨w.heap.size, 12, none⟩ = some (.int .i64 atb) ∧ w'.cell? ⟨w.heap.size, 13, none⟩ = some (.int .i64 an)) (go_keep) (first | (go_at_call 68; refine HC1.out.mono ?_; rintro r w2 ⟨p', b', rfl, hns⟩; have h2 := HT.out.go hns.below; have p4b := h2.book.cells.2.2.2.2.1; obtain ⟨v0, v1, v2, v3, v4, v5, v6, v7, v8, v9, v10, v11, v12, v13⟩ := h2.ent.at; (try simp only at v0 v1 v2 v3 v4 v5 v6 v7 v8 v9 v10 v11 v12 v13); have HN2 : Hid (NewSt _ _ _ _ _) := hns; have HT2 : Hid (Tw _ _ _ _ _ _ _ _ _ _) := h2; clear hns h2))
 go_wp2
 have h2d := HT2.out.drew
 have p3 := h2d.book.cells.2.2.2.1
 have lh2 := HLH.out _ (Or.inr h2d.book)
 obtain ⟨u0, u1, u2, u3, u4, u5, u6, u7, u8, u9, u10, u11, u12, u13⟩ := h2d.ent.at; (try simp only at u0 u1 u2 u3 u4 u5 u6 u7 u8 u9 u10 u11 u12 u13)
 have H2d : Hid (Tw _ _ _ _ _ _ _ _ _ _) := h2d
 clear h2d
 go_region_held3 (fun w' => w'.cell? ⟨x.p, 3, none⟩ = some (.map (some x.h)) ∧ (Instr.lookup 90 (.map (some x.h)) (.string ali) false).run Tryz.prog w' = .ok (.int .i64 lh) w' ∧ w'.cell? ⟨w.heap.size, 0, none⟩ = some (.string ak) ∧ w'.cell? ⟨w.heap.size, 1, none⟩ = some (.string agc) ∧ w'.cell? ⟨w.heap.size, 2, none⟩ = some (.int .i64 agp) ∧ w'.cell? ⟨w.heap.size, 3, none⟩ = some (.string ali) ∧ w'.cell? ⟨w.heap.size, 4, none⟩ = some (.string alc) ∧ w'.cell? ⟨w.heap.size, 5, none⟩ = some (.int .i64 alu) ∧ w'.cell? ⟨w.heap.size, 6, none⟩ = some (.int .i64 alk) ∧ w'.cell? ⟨w.heap.size, 7, none⟩ = some (.string afz) ∧ w'.cell? ⟨w.heap.size, 8, none⟩ = some (.int .i64 afr) ∧ w'.cell? ⟨w.heap.size, 9, none⟩ = some (.int .i64 afb) ∧ w'.cell? ⟨w.heap.size, 10, none⟩ = some (.string atz) ∧ w'.cell? ⟨w.heap.size, 11, none⟩ = some (.int .i64 atr) ∧ w'.cell? ⟨w.heap.size, 12, none⟩ = some (.int .i64 atb) ∧ w'.cell? ⟨w.heap.size, 13, none⟩ = some (.int .i64 an)) (go_keep) (first | (go_at_call 69; refine (HH.out _).mono ?_; rintro r w3 ⟨rfl, hb3⟩; have HN3 : Hid (NewSt _ _ _ _ _) := (HN2.out.later (Below.refl _ _).drew).later hb3; have h3 := H2d.out.go hb3; have p3b := h3.book.cells.2.2.2.1; have lh3 := HLH.out _ (Or.inr h3.book); obtain ⟨y0, y1, y2, y3, y4, y5, y6, y7, y8, y9, y10, y11, y12, y13⟩ := h3.ent.at; (try simp only at y0 y1 y2 y3 y4 y5 y6 y7 y8 y9 y10 y11 y12 y13); have HT3 : Hid (Tw _ _ _ _ _ _ _ _ _ _) := h3; clear hb3 h3))
 go_wp2_with (go_at_call 70; refine (HO.out _ _ _ HN3.out.st).mono ?_; rintro r w4 ⟨rfl, hb4⟩; have hs4 := (HSs.out _ (HT3.out.go hb4).below).five.short; have HN4 : Hid (NewSt _ _ _ _ _) := HN3.out.later hb4; have HT4 : Hid (Tw _ _ _ _ _ _ _ _ _ _) := HT3.out.go hb4; clear hb4)
 have h4d := HT4.out.drew
 have p1 := h4d.book.cells.2.1
 have lc4 := h4d.code
 have lu4 := HLU.out _ h4d.book
 (try simp only at lc4)
 obtain ⟨z0, z1, z2, z3, z4, z5, z6, z7, z8, z9, z10, z11, z12, z13⟩ := h4d.ent.at; (try simp only at z0 z1 z2 z3 z4 z5 z6 z7 z8 z9 z10 z11 z12 z13)
 have hbA : Below w4.drew.heap.size w4.drew (w4.drew.alloc (.cells #[.int .i64 0, .int .i64 0, .int .i64 0, .int .i64 0] 68)) := (Below.refl _ _).alloc (Nat.le_refl _) _
 have nA := heap_alloc_new w4.drew (.cells #[.int .i64 0, .int .i64 0, .int .i64 0, .int .i64 0] 68)
 obtain ⟨A1, eA⟩ : ∃ A1, w4.drew.alloc (.cells #[.int .i64 0, .int .i64 0, .int .i64 0, .int .i64 0] 68) = A1 := ⟨_, rfl⟩
 rw [eA] at hbA nA
 have hA := h4d.go hbA
 have p1A := hA.book.cells.2.1
 have lcA := hA.code
 have luA := HLU.out _ hA.book
 (try simp only at lcA)
 obtain ⟨q0, q1, q2, q3, q4, q5, q6, q7, q8, q9, q10, q11, q12, q13⟩ := hA.ent.at; (try simp only at q0 q1 q2 q3 q4 q5 q6 q7 q8 q9 q10 q11 q12 q13)
 have H4d : Hid (Tw _ _ _ _ _ _ _ _ _ _) := h4d
 have HA : Hid (Tw _ _ _ _ _ _ _ _ _ _) := hA
 have HnA : Hid (A1.heap[w4.heap.size]? = some (.cells #[.int .i64 0, .int .i64 0, .int .i64 0, .int .i64 0] 68 (0, 0))) := nA
 have HNd : Hid (NewSt _ w4.drew _ _ _) := HN4.out.later (Below.refl _ _).drew
 have HNA : Hid (NewSt _ A1 _ _ _) := (HN4.out.later (Below.refl _ _).drew).later hbA
 have HUA : Hid (Calls Tryz.prog 71 _ A1 _) := HU.out A1
 have HUB : Hid (Calls Tryz.prog 71 _ w4.drew _) := HU.out w4.drew
 have HWn : Hid (w.heap.size ≤ w4.heap.size) := h4d.below.size
 have HWm : Hid (V5.drew.heap.size ≤ w4.heap.size) := HN4.out.below.size
 clear h4d hA hbA nA
 go_region_held3 (fun w' => w'.cell? ⟨x.p, 1, none⟩ = some (.map (some x.u)) ∧ w'.cell? ⟨W.heap.size, 1, none⟩ = some (.string llc) ∧ (Instr.lookup 88 (.map (some x.u)) (.string llc) false).run Tryz.prog w' = .ok (.agg #[.int .i64 g1, .int .i64 g2, .int .i64 g3, .int .i64 g4]) w' ∧ w'.cell? ⟨w.heap.size, 0, none⟩ = some (.string ak) ∧ w'.cell? ⟨w.heap.size, 1, none⟩ = some (.string agc) ∧ w'.cell? ⟨w.heap.size, 2, none⟩ = some (.int .i64 agp) ∧ w'.cell? ⟨w.heap.size, 3, none⟩ = some (.string ali) ∧ w'.cell? ⟨w.heap.size, 4, none⟩ = some (.string alc) ∧ w'.cell? ⟨w.heap.size, 5, none⟩ = some (.int .i64 alu) ∧ w'.cell? ⟨w.heap.size, 6, none⟩ = some (.int .i64 alk) ∧ w'.cell? ⟨w.heap.size, 7, none⟩ = some (.string afz) ∧ w'.cell? ⟨w.heap.size, 8, none⟩ = some (.int .i64 afr) ∧ w'.cell? ⟨w.heap.size, 9, none⟩ = some (.int .i64 afb) ∧ w'.cell? ⟨w.heap.size, 10, none⟩ = some (.string atz) ∧ w'.cell? ⟨w.heap.size, 11, none⟩ = some (.int .i64 atr) ∧ w'.cell? ⟨w.heap.size, 12, none⟩ = some (.int .i64 atb) ∧ w'.cell? ⟨w.heap.size, 13, none⟩ = some (.int .i64 an)) (go_keep) (first | (go_at_call 71; refine HUA.out.mono ?_; rintro r w5 ⟨rfl, hb5⟩; have nA5 := (hb5.block _ (Array.getElem?_eq_some_iff.1 HnA.out).1).trans HnA.out; obtain ⟨T2, T3, T4, T5, f2, f3, f4, f5, ⟨j1, j2, j3, j4, j5⟩, ⟨j6, j7⟩, ⟨j8, j9⟩, ⟨j10, j11⟩, n6, fo⟩ := sets4 nA5 (.int .i64 s1) (.int .i64 s2) (.int .i64 s3) (.int .i64 s4); have h5 := HA.out.go hb5; have h55 := h5.turn fo HWn.out nA5; have fap := h5.book.cells.2.1; have fac := h5.code; (try simp only at fac); have fal := HLU.out _ h5.book; obtain ⟨fa0, fa1, fa2, fa3, fa4, fa5, fa6, fa7, fa8, fa9, fa10, fa11, fa12, fa13⟩ := h5.ent.at; (try simp only at fa0 fa1 fa2 fa3 fa4 fa5 fa6 fa7 fa8 fa9 fa10 fa11 fa12 fa13); have fbp := h55.book.cells.2.1; have fbc := h55.code; (try simp only at fbc); have fbl := HLU.out _ h55.book; obtain ⟨fb0, fb1, fb2, fb3, fb4, fb5, fb6, fb7, fb8, fb9, fb10, fb11, fb12, fb13⟩ := h55.ent.at; (try simp only at fb0 fb1 fb2 fb3 fb4 fb5 fb6 fb7 fb8 fb9 fb10 fb11 fb12 fb13); have HT5 : Hid (Tw _ T5 _ _ _ _ _ _ _ _) := h55; have HN5 : Hid (NewSt _ T5 _ _ _) := (HNA.out.later hb5).other fo HWm.out nA5; have H6 : Hid (T5.heap[w4.heap.size]? = _) := n6; clear fo n6 hb5 nA5 h5 h55) | (go_at_call 71; refine HUB.out.mono ?_; rintro r w5 ⟨rfl, hb5⟩; obtain ⟨T1, T2, T3, T4, T5, f1, f2, f3, f4, f5, ⟨j1, j2, j3, j4, j5⟩, ⟨j6, j7⟩, ⟨j8, j9⟩, ⟨j10, j11⟩, n6, jb1, jb5⟩ := boxed4 w5 (.int .i64 0) (.int .i64 0) (.int .i64 0) (.int .i64 0) (.int .i64 s1) (.int .i64 s2) (.int .i64 s3) (.int .i64 s4) 68; have h5 := H4d.out.go hb5; have h51 := h5.go jb1; have h55 := h5.go jb5; have fap := h5.book.cells.2.1; have fac := h5.code; (try simp only at fac); have fal := HLU.out _ h5.book; obtain ⟨fa0, fa1, fa2, fa3, fa4, fa5, fa6, fa7, fa8, fa9, fa10, fa11, fa12, fa13⟩ := h5.ent.at; (try simp only at fa0 fa1 fa2 fa3 fa4 fa5 fa6 fa7 fa8 fa9 fa10 fa11 fa12 fa13); have fbp := h51.book.cells.2.1; have fbc := h51.code; (try simp only at fbc); have fbl := HLU.out _ h51.book; obtain ⟨fb0, fb1, fb2, fb3, fb4, fb5, fb6, fb7, fb8, fb9, fb10, fb11, fb12, fb13⟩ := h51.ent.at; (try simp only at fb0 fb1 fb2 fb3 fb4 fb5 fb6 fb7 fb8 fb9 fb10 fb11 fb12 fb13); have fcp := h55.book.cells.2.1; have fcc := h55.code; (try simp only at fcc); have fcl := HLU.out _ h55.book; obtain ⟨fc0, fc1, fc2, fc3, fc4, fc5, fc6, fc7, fc8, fc9, fc10, fc11, fc12, fc13⟩ := h55.ent.at; (try simp only at fc0 fc1 fc2 fc3 fc4 fc5 fc6 fc7 fc8 fc9 fc10 fc11 fc12 fc13); have HT5 : Hid (Tw _ T5 _ _ _ _ _ _ _ _) := h55; have HN5 : Hid (NewSt _ T5 _ _ _) := (HNd.out.later hb5).later jb5; have H6 : Hid (T5.heap[w5.heap.size]? = _) := n6; clear jb1 jb5 n6 hb5 h5 h51 h55))
 all_goals
  obtain ⟨m0, m1, m2, m3⟩ := cells4 H6.out
  go_wp2_with (go_at_call 72; refine (HWl.out _).mono ?_; rintro r w6 ⟨rfl, hb6⟩; have n7 := (hb6.block _ (Array.getElem?_eq_some_iff.1 H6.out).1).trans H6.out; obtain ⟨o0, o1, o2, o3⟩ := cells4 (W := w6.drew) n7; have h6 := HT5.out.go hb6; have h6d := h6.drew; obtain ⟨_, i1, _, i3, i4, i5⟩ := h6d.book.cells; have i6 := h6d.code; (try simp only at i6); obtain ⟨V, st, z, y2, y3, st', z', y4, y5, l1, l2, l3, l4, l5, lo, lp, l6, l7⟩ := HL.out _ _ _ _ h6 _ (HN5.out.later hb6) HV.out; (try simp only at l1 l2 l3 l4 l5 l6 l7); have aw := h6.book.away n7 (by decide); have al := h6.book.away h6.lot (by decide); obtain ⟨s20, s21, s22, s23⟩ := lo _ aw.1 aw.2.1 aw.2.2; obtain ⟨s30, s31, s32, s33⟩ := lo _ al.1 al.2.1 al.2.2; obtain ⟨ca0, ca1, ca2, ca3⟩ := cells4 (s20.trans n7); obtain ⟨cb0, cb1, cb2, cb3⟩ := cells4 (s21.trans n7); obtain ⟨cc0, cc1, cc2, cc3⟩ := cells4 (s22.trans n7); obtain ⟨cd0, cd1, cd2, cd3⟩ := cells4 (s23.trans n7); obtain ⟨_, ka1, _, _⟩ := cells4 (s30.trans h6.lot); obtain ⟨_, kb1, _, _⟩ := cells4 (s31.trans h6.lot); obtain ⟨_, kc1, _, _⟩ := cells4 (s32.trans h6.lot); (try simp only at ka1 kb1 kc1); obtain ⟨pa1, pa3⟩ := lp V (Or.inl rfl); obtain ⟨pb1, pb3⟩ := lp y2 (Or.inr (Or.inl rfl)); obtain ⟨pc1, pc3⟩ := lp y3 (Or.inr (Or.inr (Or.inl rfl))); have HF : Hid (IsBk _ _ _ _ ∧ Off _ _ _) := ⟨l6, l7⟩; clear hb6 h6 h6d l6 l7 n7 lo lp aw al s20 s21 s22 s23 s30 s31 s32 s33)
  go_region
  go_wp2
  go_ret
  exact ⟨rfl, HF.out⟩
end Go.Proofs.YtppodkkefegbkaaGreatDoor
