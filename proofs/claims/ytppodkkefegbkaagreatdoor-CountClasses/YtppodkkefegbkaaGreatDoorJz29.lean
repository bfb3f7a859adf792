/-
 What turn does: pieces of a lot come, go, move, are held or free; an error leaves the book as it was; no old block but the book's own is turned.
-/
import Derived.Test.YtppodkkefegbkaaGreatDoorJz27
import Derived.Deep.RegionHeld3
import Derived.Test.YtppodkkefegbkaaGreatDoorJz10
import Derived.Test.YtppodkkefegbkaaGreatDoorJz11
import Derived.Shelf.SlSortCmp.WholeK
import Derived.Test.YtppodkkefegbkaaGreatDoorJz13
import Derived.Test.YtppodkkefegbkaaGreatDoorJz6
import Derived.Test.YtppodkkefegbkaaGreatDoorGenK
import Derived.Shelf.SlSortCmp.NoneTotal
import Derived.Test.YtppodkkefegbkaaGreatDoorLSorts
import Derived.Test.YtppodkkefegbkaaGreatDoorJz9
import Derived.Test.YtppodkkefegbkaaGreatDoorJz21
set_option maxRecDepth 100000
set_option maxHeartbeats 16000000
namespace Go.Proofs.YtppodkkefegbkaaGreatDoor
open Go.RowKit Go.Lib Go.Sort
theorem turn_none (w : World) (s : Nat → Addr) (B : Nat) (x : Bl) (b : Bk) (e : En) (h : IsBk w B x b) (hz : SzE e) (hs : Bs w s) (hn : ∀ y ∈ b.2.1, nameL y ≠ e.2.2.1.1) :
  Calls Tryz.prog 37 #[.pointer (some ⟨x.p, 0, none⟩), agE e] w fun r w' => r = .returned (errP s (6)) ∧ IsBk w' B x b ∧ Off x.all w w' := by
 obtain ⟨ps, bs, h⟩ := h
 have hE := BlkE.new w e
 have hb1 : Below w.heap.size w (w.alloc (celE e)) := (Below.refl _ w).alloc (Nat.le_refl _) _
 obtain ⟨W, hW⟩ : ∃ W, w.alloc (celE e) = W := ⟨_, rfl⟩
 rw [hW] at hE hb1
 have hB1 := h.all hb1
 have hq := hB1.askL_no hz.li hn
 obtain ⟨V1, V2, V3, V4, V5, e1, e2, e3, e4, e5, ⟨k1, k2, k3, k4, k5⟩, ⟨k6, k7⟩, ⟨k8, k9⟩, ⟨k10, k11⟩, n5, kb1, kb5⟩ := boxed4 W (.string ⟨#[]⟩) (.string ⟨#[]⟩) (.int .i64 0) (.int .i64 0) (.string ⟨#[]⟩) (.string ⟨#[]⟩) (.int .i64 0) (.int .i64 0) 39
 have hbV : Below w.heap.size w V5 := hb1.trans (kb5.mono hb1.size)
 have hsV : V5.cell? ⟨1, 0, none⟩ = some (err (s 5)) := (hs.below hbV).none_
 have HF : Hid (IsBk V5 B x b ∧ Off x.all w V5) := ⟨⟨ps, bs, h.all hbV⟩, Off.of_below hbV⟩
 have c3 := hE.at.c3
 obtain ⟨_, _, p2, _⟩ := hB1.cells
 clear kb1 kb5 hbV hb1 hB1 hE h hs hn n5 hz
 obtain ⟨ak, ⟨agc, agp⟩, ⟨ali, alc, alu, alk⟩, ⟨afz, afr, afb⟩, ⟨atz, atr, atb⟩, an⟩ := e
 unfold agE celE at *
 simp only at *
 go_enter Tryz.func37, Tryz.ntmps37
 go_wp2_with (at_lookup; refine wpL_ask rfl _ _ 89 rfl x.l _ _ rfl rfl hq ?_)
 go_ret
 exact ⟨rfl, HF.out⟩
theorem turn_stk (w : World) (s : Nat → Addr) (B : Nat) (x : Bl) (b : Bk) (e : En) (h : IsBk w B x b) (hz : SzE e) (hs : Bs w s) (k i : Nat) (l : Lh) (g : Gs) (hl : b.2.1[k]? = some l) (hid : nameL l = e.2.2.1.1) (hg : b.1[i]? = some g) (hgn : nameG g = l.1.2.1) (he : entErr e = 0) (h1 : e.1 ≠ kGoods) (h2 : e.1 ≠ kLot) (hc : stkE e b.2.2 ≠ 0) :
  Calls Tryz.prog 37 #[.pointer (some ⟨x.p, 0, none⟩), agE e] w fun r w' => r = .returned (errP s (stkE e b.2.2)) ∧ IsBk w' B x b ∧ Off x.all w w' := by
 obtain ⟨ps, bs, h⟩ := h
 have hE := BlkE.new w e
 have hb1 : Below w.heap.size w (w.alloc (celE e)) := (Below.refl _ w).alloc (Nat.le_refl _) _
 obtain ⟨W, hW⟩ : ∃ W, w.alloc (celE e) = W := ⟨_, rfl⟩
 rw [hW] at hE hb1
 have hB1 := h.all hb1
 have hlm := List.mem_of_getElem? hl
 have hgm := List.mem_of_getElem? hg
 have hq := hB1.askL_yes hz.li hlm hid
 obtain ⟨V1, V2, V3, V4, V5, e1, e2, e3, e4, e5, ⟨k1, k2, k3, k4, k5⟩, ⟨k6, k7⟩, ⟨k8, k9⟩, ⟨k10, k11⟩, n5, kb1, kb5⟩ := boxed4 W (.string ⟨#[]⟩) (.string ⟨#[]⟩) (.int .i64 0) (.int .i64 0) (.string l.1.1) (.string l.1.2.1) (.int .i64 l.1.2.2.1) (.int .i64 l.1.2.2.2) 39
 have hbV : Below w.heap.size w V5 := hb1.trans (kb5.mono hb1.size)
 have hT : Tw w V5.drew B x ps bs b e W.heap.size l.1 := Tw.drew ⟨hbV, h.all hbV, hE.below kb5, n5, hb1.size⟩
 have hC1 := stockAfter_any V5.drew s ps bs b.2.2 e hT.book.S hz (hs.below hT.below).five he h1 h2
 have hnum := piece_num he h1 h2
 have hsum := h.ok.wf.sums g hgm
 have hheld := h.ok.wf.held l hlm
 have hheld2 : l.2 ≤ 1099511627776 := Int.le_trans hheld.2 (h.ok.wf.st.most _)
 rw [errP_pos s hc] at hC1 ⊢
 generalize s (stkE e b.2.2 - 1) = ad at *
 have HSs : Hid (∀ W, Below w.heap.size w W → Bs W s) := fun W hb => hs.below hb
 have c3 := hE.at.c3
 obtain ⟨_, _, p2, _⟩ := hB1.cells
 have p4 := hT.book.cells.2.2.2.2.1
 obtain ⟨t0, t1, t2, t3, t4, t5, t6, t7, t8, t9, t10, t11, t12, t13⟩ := hT.ent.at; (try simp only at t0 t1 t2 t3 t4 t5 t6 t7 t8 t9 t10 t11 t12 t13)
 have HT : Hid (Tw _ _ _ _ _ _ _ _ _ _) := hT
 have HC1 : Hid (Calls Tryz.prog 68 _ _ _) := hC1
 have HV : Hid (w.heap.size ≤ V5.drew.heap.size) := hbV.size
 have _u := hgn
 clear _u
 clear kb1 kb5 hbV hb1 hB1 hE h hs hz hT hC1 hnum hsum hheld hheld2 hlm hgm hl hg hid hgn he h1 h2 hc n5
 obtain ⟨ak, ⟨agc, agp⟩, ⟨ali, alc, alu, alk⟩, ⟨afz, afr, afb⟩, ⟨atz, atr, atb⟩, an⟩ := e
 obtain ⟨⟨lli, llc, llu, llk⟩, lh⟩ := l
 unfold agE celE at *
 simp only at *
 go_enter Tryz.func37, Tryz.ntmps37
 go_wp2_with (at_lookup; refine wpL_ask rfl _ _ 89 rfl x.l _ _ rfl rfl hq ?_)
 go_region_held3 (fun w' => w'.cell? ⟨x.p, 4, none⟩ = some (.pointer (some ⟨ps, 0, none⟩)) ∧ w'.cell? ⟨w.heap.size, 0, none⟩ = some (.string ak) ∧ w'.cell? ⟨w.heap.size, 1, none⟩ = some (.string agc) ∧ w'.cell? ⟨w.heap.size, 2, none⟩ = some (.int .i64 agp) ∧ w'.cell? ⟨w.heap.size, 3, none⟩ = some (.string ali) ∧ w'.cell? ⟨w.heap.size, 4, none⟩ = some (.string alc) ∧ w'.cell? ⟨w.heap.size, 5, none⟩ = some (.int .i64 alu) ∧ w'.cell? ⟨w.heap.size, 6, none⟩ = some (.int .i64 alk) ∧ w'.cell? ⟨w.heap.size, 7, none⟩ = some (.string afz) ∧ w'.cell? ⟨w.heap.size, 8, none⟩ = some (.int .i64 afr) ∧ w'.cell? ⟨w.heap.size, 9, none⟩ = some (.int .i64 afb) ∧ w'.cell? ⟨w.heap.size, 10, none⟩ = some (.string atz) ∧ w'.cell? ⟨w.heap.size, 11, none⟩ = some (.int .i64 atr) ∧ w'.cell? ⟨w.heap.size, 12, none⟩ = some (.int .i64 atb) ∧ w'.cell? ⟨w.heap.size, 13, none⟩ = some (.int .i64 an)) (go_keep) (first | (go_at_call 68; refine HC1.out.mono ?_; rintro r w2 ⟨p', b', rfl, hns⟩; have h2 := HT.out.go hns.below; have p4b := h2.book.cells.2.2.2.2.1; obtain ⟨v0, v1, v2, v3, v4, v5, v6, v7, v8, v9, v10, v11, v12, v13⟩ := h2.ent.at; (try simp only at v0 v1 v2 v3 v4 v5 v6 v7 v8 v9 v10 v11 v12 v13); have HN2 : Hid (NewSt _ _ _ _ _) := hns; have HT2 : Hid (Tw _ _ _ _ _ _ _ _ _ _) := h2; clear hns h2))
 go_wp2
 go_ret
 exact ⟨rfl, HT2.out.fin_⟩
theorem turn_neg (w : World) (s : Nat → Addr) (B : Nat) (x : Bl) (b : Bk) (e : En) (h : IsBk w B x b) (hz : SzE e) (hs : Bs w s) (k i : Nat) (l : Lh) (g : Gs) (hl : b.2.1[k]? = some l) (hid : nameL l = e.2.2.1.1) (hg : b.1[i]? = some g) (hgn : nameG g = l.1.2.1) (he : entErr e = 0) (h1 : e.1 ≠ kGoods) (h2 : e.1 ≠ kLot) (hc : stkE e b.2.2 = 0) (hh : heldN e.1 l.2 e.2.2.2.2.2 < 0) :
  Calls Tryz.prog 37 #[.pointer (some ⟨x.p, 0, none⟩), agE e] w fun r w' => r = .returned (errP s (9)) ∧ IsBk w' B x b ∧ Off x.all w w' := by
 obtain ⟨ps, bs, h⟩ := h
 have hE := BlkE.new w e
 have hb1 : Below w.heap.size w (w.alloc (celE e)) := (Below.refl _ w).alloc (Nat.le_refl _) _
 obtain ⟨W, hW⟩ : ∃ W, w.alloc (celE e) = W := ⟨_, rfl⟩
 rw [hW] at hE hb1
 have hB1 := h.all hb1
 have hlm := List.mem_of_getElem? hl
 have hgm := List.mem_of_getElem? hg
 have hq := hB1.askL_yes hz.li hlm hid
 obtain ⟨V1, V2, V3, V4, V5, e1, e2, e3, e4, e5, ⟨k1, k2, k3, k4, k5⟩, ⟨k6, k7⟩, ⟨k8, k9⟩, ⟨k10, k11⟩, n5, kb1, kb5⟩ := boxed4 W (.string ⟨#[]⟩) (.string ⟨#[]⟩) (.int .i64 0) (.int .i64 0) (.string l.1.1) (.string l.1.2.1) (.int .i64 l.1.2.2.1) (.int .i64 l.1.2.2.2) 39
 have hbV : Below w.heap.size w V5 := hb1.trans (kb5.mono hb1.size)
 have hT : Tw w V5.drew B x ps bs b e W.heap.size l.1 := Tw.drew ⟨hbV, h.all hbV, hE.below kb5, n5, hb1.size⟩
 have hC1 := stockAfter_any V5.drew s ps bs b.2.2 e hT.book.S hz (hs.below hT.below).five he h1 h2
 have hnum := piece_num he h1 h2
 have hsum := h.ok.wf.sums g hgm
 have hheld := h.ok.wf.held l hlm
 have hheld2 : l.2 ≤ 1099511627776 := Int.le_trans hheld.2 (h.ok.wf.st.most _)
 rw [hc, errP_zero] at hC1
 have HH : Hid (∀ W, Calls Tryz.prog 69 #[.int .i64 l.2, agE e] W fun r w' => r = .returned (.int .i64 (heldN e.1 l.2 e.2.2.2.2.2)) ∧ Below W.heap.size W w') := fun W => heldAfter_any l.2 e W ⟨hheld.1, hheld2⟩ hnum
 have HLH : Hid (∀ W, Tw w W B x ps bs b e W.heap.size l.1 ∨ BkAt W B x ps bs b → (Instr.lookup 90 (.map (some x.h)) (.string e.2.2.1.1) false).run Tryz.prog W = .ok (.int .i64 l.2) W) := fun W hW => (hW.elim Tw.book id).lookH hz.li hlm hid
 have HSs : Hid (∀ W, Below w.heap.size w W → Bs W s) := fun W hb => hs.below hb
 have c3 := hE.at.c3
 obtain ⟨_, _, p2, _⟩ := hB1.cells
 have p4 := hT.book.cells.2.2.2.2.1
 obtain ⟨t0, t1, t2, t3, t4, t5, t6, t7, t8, t9, t10, t11, t12, t13⟩ := hT.ent.at; (try simp only at t0 t1 t2 t3 t4 t5 t6 t7 t8 t9 t10 t11 t12 t13)
 have HT : Hid (Tw _ _ _ _ _ _ _ _ _ _) := hT
 have HC1 : Hid (Calls Tryz.prog 68 _ _ _) := hC1
 have HV : Hid (w.heap.size ≤ V5.drew.heap.size) := hbV.size
 generalize hHN : heldN e.1 l.2 e.2.2.2.2.2 = hd at *
 have _u := hgn
 clear _u
 clear kb1 kb5 hbV hb1 hB1 hE h hs hz hT hC1 hnum hsum hheld hheld2 hlm hgm hl hg hid hgn he h1 h2 hc n5
 obtain ⟨ak, ⟨agc, agp⟩, ⟨ali, alc, alu, alk⟩, ⟨afz, afr, afb⟩, ⟨atz, atr, atb⟩, an⟩ := e
 obtain ⟨⟨lli, llc, llu, llk⟩, lh⟩ := l
 unfold agE celE at *
 simp only at *
 go_enter Tryz.func37, Tryz.ntmps37
 go_wp2_with (at_lookup; refine wpL_ask rfl _ _ 89 rfl x.l _ _ rfl rfl hq ?_)
 go_region_held3 (fun w' => w'.cell? ⟨x.p, 4, none⟩ = some (.pointer (some ⟨ps, 0, none⟩)) ∧ w'.cell? ⟨w.heap.size, 0, none⟩ = some (.string ak) ∧ w'.cell? ⟨w.heap.size, 1, none⟩ = some (.string agc) ∧ w'.cell? ⟨w.heap.size, 2, none⟩ = some (.int .i64 agp) ∧ w'.cell? ⟨w.heap.size, 3, none⟩ = some (.string ali) ∧ w'.cell? ⟨w.heap.size, 4, none⟩ = some (.string alc) ∧ w'.cell? ⟨w.heap.size, 5, none⟩ = some (.int .i64 alu) ∧ w'.cell? ⟨w.heap.size, 6, none⟩ = some (.int .i64 alk) ∧ w'.cell? ⟨w.heap.size, 7, none⟩ = some (.string afz) ∧ w'.cell? ⟨w.heap.size, 8, none⟩ = some (.int .i64 afr) ∧ w'.cell? ⟨w.heap.size, 9, none⟩ = some (.int .i64 afb) ∧ w'.cell? ⟨w.heap.size, 10, none⟩ = some (.string atz) ∧ w'.cell? ⟨w.heap.size, 11, none⟩ = some (.int .i64 atr) ∧ w'.cell? ⟨w.heap.size, 12, none⟩ = some (.int .i64 atb) ∧ w'.cell? ⟨w.heap.size, 13, none⟩ = some (.int .i64 an)) (go_keep) (first | (go_at_call 68; refine HC1.out.mono ?_; rintro r w2 ⟨p', b', rfl, hns⟩; have h2 := HT.out.go hns.below; have p4b := h2.book.cells.2.2.2.2.1; obtain ⟨v0, v1, v2, v3, v4, v5, v6, v7, v8, v9, v10, v11, v12, v13⟩ := h2.ent.at; (try simp only at v0 v1 v2 v3 v4 v5 v6 v7 v8 v9 v10 v11 v12 v13); have HN2 : Hid (NewSt _ _ _ _ _) := hns; have HT2 : Hid (Tw _ _ _ _ _ _ _ _ _ _) := h2; clear hns h2))
 go_wp2
 have h2d := HT2.out.drew
 have p3 := h2d.book.cells.2.2.2.1
 have lh2 := HLH.out _ (Or.inr h2d.book)
 obtain ⟨u0, u1, u2, u3, u4, u5, u6, u7, u8, u9, u10, u11, u12, u13⟩ := h2d.ent.at; (try simp only at u0 u1 u2 u3 u4 u5 u6 u7 u8 u9 u10 u11 u12 u13)
 have H2d : Hid (Tw _ _ _ _ _ _ _ _ _ _) := h2d
 clear h2d
 go_region_held3 (fun w' => w'.cell? ⟨x.p, 3, none⟩ = some (.map (some x.h)) ∧ (Instr.lookup 90 (.map (some x.h)) (.string ali) false).run Tryz.prog w' = .ok (.int .i64 lh) w' ∧ w'.cell? ⟨w.heap.size, 0, none⟩ = some (.string ak) ∧ w'.cell? ⟨w.heap.size, 1, none⟩ = some (.string agc) ∧ w'.cell? ⟨w.heap.size, 2, none⟩ = some (.int .i64 agp) ∧ w'.cell? ⟨w.heap.size, 3, none⟩ = some (.string ali) ∧ w'.cell? ⟨w.heap.size, 4, none⟩ = some (.string alc) ∧ w'.cell? ⟨w.heap.size, 5, none⟩ = some (.int .i64 alu) ∧ w'.cell? ⟨w.heap.size, 6, none⟩ = some (.int .i64 alk) ∧ w'.cell? ⟨w.heap.size, 7, none⟩ = some (.string afz) ∧ w'.cell? ⟨w.heap.size, 8, none⟩ = some (.int .i64 afr) ∧ w'.cell? ⟨w.heap.size, 9, none⟩ = some (.int .i64 afb) ∧ w'.cell? ⟨w.heap.size, 10, none⟩ = some (.string atz) ∧ w'.cell? ⟨w.heap.size, 11, none⟩ = some (.int .i64 atr) ∧ w'.cell? ⟨w.heap.size, 12, none⟩ = some (.int .i64 atb) ∧ w'.cell? ⟨w.heap.size, 13, none⟩ = some (.int .i64 an)) (go_keep) (first | (go_at_call 69; refine (HH.out _).mono ?_; rintro r w3 ⟨rfl, hb3⟩; have HN3 : Hid (NewSt _ _ _ _ _) := (HN2.out.later (Below.refl _ _).drew).later hb3; have h3 := H2d.out.go hb3; have p3b := h3.book.cells.2.2.2.1; have lh3 := HLH.out _ (Or.inr h3.book); obtain ⟨y0, y1, y2, y3, y4, y5, y6, y7, y8, y9, y10, y11, y12, y13⟩ := h3.ent.at; (try simp only at y0 y1 y2 y3 y4 y5 y6 y7 y8 y9 y10 y11 y12 y13); have HT3 : Hid (Tw _ _ _ _ _ _ _ _ _ _) := h3; clear hb3 h3))
 have hs3 := (HSs.out _ HT3.out.below).five.short
 go_wp2
 go_ret
 exact ⟨rfl, HT3.out.fin_⟩
theorem turn_short (w : World) (s : Nat → Addr) (B : Nat) (x : Bl) (b : Bk) (e : En) (h : IsBk w B x b) (hz : SzE e) (hs : Bs w s) (k i : Nat) (l : Lh) (g : Gs) (hl : b.2.1[k]? = some l) (hid : nameL l = e.2.2.1.1) (hg : b.1[i]? = some g) (hgn : nameG g = l.1.2.1) (he : entErr e = 0) (h1 : e.1 ≠ kGoods) (h2 : e.1 ≠ kLot) (hc : stkE e b.2.2 = 0) (hh : 0 ≤ heldN e.1 l.2 e.2.2.2.2.2) (ho : ofL (stkL e b.2.2) e.2.2.1.1 < heldN e.1 l.2 e.2.2.2.2.2) :
  Calls Tryz.prog 37 #[.pointer (some ⟨x.p, 0, none⟩), agE e] w fun r w' => r = .returned (errP s (9)) ∧ IsBk w' B x b ∧ Off x.all w w' := by
 obtain ⟨ps, bs, h⟩ := h
 have hE := BlkE.new w e
 have hb1 : Below w.heap.size w (w.alloc (celE e)) := (Below.refl _ w).alloc (Nat.le_refl _) _
 obtain ⟨W, hW⟩ : ∃ W, w.alloc (celE e) = W := ⟨_, rfl⟩
 rw [hW] at hE hb1
 have hB1 := h.all hb1
 have hlm := List.mem_of_getElem? hl
 have hgm := List.mem_of_getElem? hg
 have hq := hB1.askL_yes hz.li hlm hid
 obtain ⟨V1, V2, V3, V4, V5, e1, e2, e3, e4, e5, ⟨k1, k2, k3, k4, k5⟩, ⟨k6, k7⟩, ⟨k8, k9⟩, ⟨k10, k11⟩, n5, kb1, kb5⟩ := boxed4 W (.string ⟨#[]⟩) (.string ⟨#[]⟩) (.int .i64 0) (.int .i64 0) (.string l.1.1) (.string l.1.2.1) (.int .i64 l.1.2.2.1) (.int .i64 l.1.2.2.2) 39
 have hbV : Below w.heap.size w V5 := hb1.trans (kb5.mono hb1.size)
 have hT : Tw w V5.drew B x ps bs b e W.heap.size l.1 := Tw.drew ⟨hbV, h.all hbV, hE.below kb5, n5, hb1.size⟩
 have hC1 := stockAfter_any V5.drew s ps bs b.2.2 e hT.book.S hz (hs.below hT.below).five he h1 h2
 have hnum := piece_num he h1 h2
 have hsum := h.ok.wf.sums g hgm
 have hheld := h.ok.wf.held l hlm
 have hheld2 : l.2 ≤ 1099511627776 := Int.le_trans hheld.2 (h.ok.wf.st.most _)
 rw [hc, errP_zero] at hC1
 have HH : Hid (∀ W, Calls Tryz.prog 69 #[.int .i64 l.2, agE e] W fun r w' => r = .returned (.int .i64 (heldN e.1 l.2 e.2.2.2.2.2)) ∧ Below W.heap.size W w') := fun W => heldAfter_any l.2 e W ⟨hheld.1, hheld2⟩ hnum
 have HLH : Hid (∀ W, Tw w W B x ps bs b e W.heap.size l.1 ∨ BkAt W B x ps bs b → (Instr.lookup 90 (.map (some x.h)) (.string e.2.2.1.1) false).run Tryz.prog W = .ok (.int .i64 l.2) W) := fun W hW => (hW.elim Tw.book id).lookH hz.li hlm hid
 have HO : Hid (∀ W p' b', IsStock W p' b' (stkL e b.2.2) → Calls Tryz.prog 70 #[.pointer (some ⟨p', 0, none⟩), .string e.2.2.1.1] W fun r w' => r = .returned (.int .i64 (ofL (stkL e b.2.2) e.2.2.1.1)) ∧ Below W.heap.size W w') := fun W p' b' hi => of_any e.2.2.1.1 W p' b' (stkL e b.2.2) hi
 have HSs : Hid (∀ W, Below w.heap.size w W → Bs W s) := fun W hb => hs.below hb
 have c3 := hE.at.c3
 obtain ⟨_, _, p2, _⟩ := hB1.cells
 have p4 := hT.book.cells.2.2.2.2.1
 obtain ⟨t0, t1, t2, t3, t4, t5, t6, t7, t8, t9, t10, t11, t12, t13⟩ := hT.ent.at; (try simp only at t0 t1 t2 t3 t4 t5 t6 t7 t8 t9 t10 t11 t12 t13)
 have HT : Hid (Tw _ _ _ _ _ _ _ _ _ _) := hT
 have HC1 : Hid (Calls Tryz.prog 68 _ _ _) := hC1
 have HV : Hid (w.heap.size ≤ V5.drew.heap.size) := hbV.size
 generalize hHN : heldN e.1 l.2 e.2.2.2.2.2 = hd at *
 generalize hON : ofL (stkL e b.2.2) e.2.2.1.1 = od at *
 have _u := hgn
 clear _u
 clear kb1 kb5 hbV hb1 hB1 hE h hs hz hT hC1 hnum hsum hheld hheld2 hlm hgm hl hg hid hgn he h1 h2 hc n5
 obtain ⟨ak, ⟨agc, agp⟩, ⟨ali, alc, alu, alk⟩, ⟨afz, afr, afb⟩, ⟨atz, atr, atb⟩, an⟩ := e
 obtain ⟨⟨lli, llc, llu, llk⟩, lh⟩ := l
 unfold agE celE at *
 simp only at *
 go_enter Tryz.func37, Tryz.ntmps37
 go_wp2_with (at_lookup; refine wpL_ask rfl _ _ 89 rfl x.l _ _ rfl rfl hq ?_)
 go_region_held3 (fun w' => w'.cell? ⟨x.p, 4, none⟩ = some (.pointer (some ⟨ps, 0, none⟩)) ∧ w'.cell? ⟨w.heap.size, 0, none⟩ = some (.string ak) ∧ w'.cell? ⟨w.heap.size, 1, none⟩ = some (.string agc) ∧ w'.cell? ⟨w.heap.size, 2, none⟩ = some (.int .i64 agp) ∧ w'.cell? ⟨w.heap.size, 3, none⟩ = some (.string ali) ∧ w'.cell? ⟨w.heap.size, 4, none⟩ = some (.string alc) ∧ w'.cell? ⟨w.heap.size, 5, none⟩ = some (.int .i64 alu) ∧ w'.cell? ⟨w.heap.size, 6, none⟩ = some (.int .i64 alk) ∧ w'.cell? ⟨w.heap.size, 7, none⟩ = some (.string afz) ∧ w'.cell? ⟨w.heap.size, 8, none⟩ = some (.int .i64 afr) ∧ w'.cell? ⟨w.heap.size, 9, none⟩ = some (.int .i64 afb) ∧ w'.cell? ⟨w.heap.size, 10, none⟩ = some (.string atz) ∧ w'.cell? ⟨w.heap.size, 11, none⟩ = some (.int .i64 atr) ∧ w'.cell? ⟨w.heap.size, 12, none⟩ = some (.int .i64 atb) ∧ w'.cell? ⟨w.heap.size, 13, none⟩ = some (.int .i64 an)) (go_keep) (first | (go_at_call 68; refine HC1.out.mono ?_; rintro r w2 ⟨p', b', rfl, hns⟩; have h2 := HT.out.go hns.below; have p4b := h2.book.cells.2.2.2.2.1; obtain ⟨v0, v1, v2, v3, v4, v5, v6, v7, v8, v9, v10, v11, v12, v13⟩ := h2.ent.at; (try simp only at v0 v1 v2 v3 v4 v5 v6 v7 v8 v9 v10 v11 v12 v13); have HN2 : Hid (NewSt _ _ _ _ _) := hns; have HT2 : Hid (Tw _ _ _ _ _ _ _ _ _ _) := h2; clear hns h2))
 go_wp2
 have h2d := HT2.out.drew
 have p3 := h2d.book.cells.2.2.2.1
 have lh2 := HLH.out _ (Or.inr h2d.book)
 obtain ⟨u0, u1, u2, u3, u4, u5, u6, u7, u8, u9, u10, u11, u12, u13⟩ := h2d.ent.at; (try simp only at u0 u1 u2 u3 u4 u5 u6 u7 u8 u9 u10 u11 u12 u13)
 have H2d : Hid (Tw _ _ _ _ _ _ _ _ _ _) := h2d
 clear h2d
 go_region_held3 (fun w' => w'.cell? ⟨x.p, 3, none⟩ = some (.map (some x.h)) ∧ (Instr.lookup 90 (.map (some x.h)) (.string ali) false).run Tryz.prog w' = .ok (.int .i64 lh) w' ∧ w'.cell? ⟨w.heap.size, 0, none⟩ = some (.string ak) ∧ w'.cell? ⟨w.heap.size, 1, none⟩ = some (.string agc) ∧ w'.cell? ⟨w.heap.size, 2, none⟩ = some (.int .i64 agp) ∧ w'.cell? ⟨w.heap.size, 3, none⟩ = some (.string ali) ∧ w'.cell? ⟨w.heap.size, 4, none⟩ = some (.string alc) ∧ w'.cell? ⟨w.heap.size, 5, none⟩ = some (.int .i64 alu) ∧ w'.cell? ⟨w.heap.size, 6, none⟩ = some (.int .i64 alk) ∧ w'.cell? ⟨w.heap.size, 7, none⟩ = some (.string afz) ∧ w'.cell? ⟨w.heap.size, 8, none⟩ = some (.int .i64 afr) ∧ w'.cell? ⟨w.heap.size, 9, none⟩ = some (.int .i64 afb) ∧ w'.cell? ⟨w.heap.size, 10, none⟩ = some (.string atz) ∧ w'.cell? ⟨w.heap.size, 11, none⟩ = some (.int .i64 atr) ∧ w'.cell? ⟨w.heap.size, 12, none⟩ = some (.int .i64 atb) ∧ w'.cell? ⟨w.heap.size, 13, none⟩ = some (.int .i64 an)) (go_keep) (first | (go_at_call 69; refine (HH.out _).mono ?_; rintro r w3 ⟨rfl, hb3⟩; have HN3 : Hid (NewSt _ _ _ _ _) := (HN2.out.later (Below.refl _ _).drew).later hb3; have h3 := H2d.out.go hb3; have p3b := h3.book.cells.2.2.2.1; have lh3 := HLH.out _ (Or.inr h3.book); obtain ⟨y0, y1, y2, y3, y4, y5, y6, y7, y8, y9, y10, y11, y12, y13⟩ := h3.ent.at; (try simp only at y0 y1 y2 y3 y4 y5 y6 y7 y8 y9 y10 y11 y12 y13); have HT3 : Hid (Tw _ _ _ _ _ _ _ _ _ _) := h3; clear hb3 h3))
 go_wp2_with (go_at_call 70; refine (HO.out _ _ _ HN3.out.st).mono ?_; rintro r w4 ⟨rfl, hb4⟩; have hs4 := (HSs.out _ (HT3.out.go hb4).below).five.short; have HN4 : Hid (NewSt _ _ _ _ _) := HN3.out.later hb4; have HT4 : Hid (Tw _ _ _ _ _ _ _ _ _ _) := HT3.out.go hb4; clear hb4)
 go_ret
 exact ⟨rfl, HT4.out.fin_⟩
theorem sets4 {W : World} {A : Nat} {a b c d : Value} {t : TypeId} (n1 : W.heap[A]? = some (.cells #[a, b, c, d] t (0, 0))) (v0 v1 v2 v3 : Value) : ∃ V2 V3 V4 V5 : World, W.setCell ⟨A, 0, none⟩ v0 = V2 ∧ V2.setCell ⟨A, 1, none⟩ v1 = V3 ∧ V3.setCell ⟨A, 2, none⟩ v2 = V4 ∧ V4.setCell ⟨A, 3, none⟩ v3 = V5 ∧
  (W.cell? ⟨A, 0, none⟩ = some a ∧ W.cell? ⟨A, 1, none⟩ = some b ∧ W.cell? ⟨A, 2, none⟩ = some c ∧ W.cell? ⟨A, 3, none⟩ = some d ∧ ∀ o, W.frozen? ⟨A, o, none⟩ = false) ∧ (V2.cell? ⟨A, 1, none⟩ = some b ∧ ∀ o, V2.frozen? ⟨A, o, none⟩ = false) ∧ (V3.cell? ⟨A, 2, none⟩ = some c ∧ ∀ o, V3.frozen? ⟨A, o, none⟩ = false) ∧ (V4.cell? ⟨A, 3, none⟩ = some d ∧ ∀ o, V4.frozen? ⟨A, o, none⟩ = false) ∧
  V5.heap[A]? = some (.cells #[v0, v1, v2, v3] t (0, 0)) ∧ Off [A] W V5 := by
 have n2 : (W.setCell ⟨A, 0, none⟩ v0).heap[A]? = some (.cells #[v0, b, c, d] t (0, 0)) := set_cell n1 0 v0 rfl
 have b2 : Off [A] W (W.setCell ⟨A, 0, none⟩ v0) := (Off.refl _ W).set (by simp) v0
 refine ⟨_, _, _, _, rfl, rfl, rfl, rfl, ?_⟩
 generalize W.setCell ⟨A, 0, none⟩ v0 = V2 at *
 have n3 : (V2.setCell ⟨A, 1, none⟩ v1).heap[A]? = some (.cells #[v0, v1, c, d] t (0, 0)) := set_cell n2 1 v1 rfl
 have b3 : Off [A] W (V2.setCell ⟨A, 1, none⟩ v1) := b2.set (by simp) v1
 generalize V2.setCell ⟨A, 1, none⟩ v1 = V3 at *
 have n4 : (V3.setCell ⟨A, 2, none⟩ v2).heap[A]? = some (.cells #[v0, v1, v2, d] t (0, 0)) := set_cell n3 2 v2 rfl
 have b4 : Off [A] W (V3.setCell ⟨A, 2, none⟩ v2) := b3.set (by simp) v2
 generalize V3.setCell ⟨A, 2, none⟩ v2 = V4 at *
 exact ⟨⟨by rw [cell_of_heap n1]; rfl, by rw [cell_of_heap n1]; rfl, by rw [cell_of_heap n1]; rfl, by rw [cell_of_heap n1]; rfl, fun o => frozen_of_heap n1 o⟩, ⟨by rw [cell_of_heap n2]; rfl, fun o => frozen_of_heap n2 o⟩, ⟨by rw [cell_of_heap n3]; rfl, fun o => frozen_of_heap n3 o⟩, ⟨by rw [cell_of_heap n4]; rfl, fun o => frozen_of_heap n4 o⟩, set_cell n4 3 v3 rfl, b4.set (by simp) v3⟩
theorem cells4 {W : World} {A : Nat} {a b c d : Value} {t : TypeId} (n1 : W.heap[A]? = some (.cells #[a, b, c, d] t (0, 0))) : W.cell? ⟨A, 0, none⟩ = some a ∧ W.cell? ⟨A, 1, none⟩ = some b ∧ W.cell? ⟨A, 2, none⟩ = some c ∧ W.cell? ⟨A, 3, none⟩ = some d := ⟨by rw [cell_of_heap n1]; rfl, by rw [cell_of_heap n1]; rfl, by rw [cell_of_heap n1]; rfl, by rw [cell_of_heap n1]; rfl⟩
theorem cellsT {W : World} {A : Nat} {c : Array Value} {T T' : TypeId} {f : Nat × Nat} {d : Array Value} {f' : Nat × Nat} (h : W.heap[A]? = some (.cells c T f)) (h' : W.heap[A]? = some (.cells d T' f')) : T = T' := by
 rw [h] at h'
 injection h' with h'
 injection h' with _ h2 _
theorem Tw.turn {w W W' : World} {B : Nat} {x : Bl} {ps bs : Nat} {b : Bk} {e : En} {lb : Nat} {l : Lo} (h : Tw w W B x ps bs b e lb l) {A : Nat} (hf : Off [A] W W') (hA : w.heap.size ≤ A) {d : Array Value} (nA : W.heap[A]? = some (.cells d 68 (0, 0))) : Tw w W' B x ps bs b e lb l := by
 have o : ∀ k, k < W.heap.size → k ≠ A → W'.heap[k]? = W.heap[k]? := fun k hk hn => hf.block k hk (by simpa using hn)
 have hl := h.book.low
 have hne : ∀ {k : Nat} {c : Array Value} {T : TypeId} {f : Nat × Nat}, W.heap[k]? = some (.cells c T f) → T ≠ 68 → k ≠ A := fun hk hT e9 => hT (cellsT hk (e9 ▸ nA))
 have hnm : ∀ {k : Nat} {L : List Ent} {kt : TypeId}, MapL Tryz.prog kt W k L → k ≠ A := fun hm e9 => by
  have c0 : W.cell? ⟨A, 0, none⟩ = W.cell? ⟨A, 0, none⟩ := rfl
  obtain ⟨es, ck, hb, _⟩ := hm
  rw [e9, nA] at hb
  cases hb
 refine ⟨h.below.trans (hf.below h.below.size (by simpa using hA)), h.book.of_blocks fun k hk => o k (hl k hk).2 ?_, ?_, ?_, h.lbn⟩
 ·rcases hk with rfl | rfl | rfl | rfl | rfl | rfl | rfl
  ·exact hne h.book.blk (by decide)
  ·exact hnm h.book.G
  ·exact hnm h.book.U
  ·exact hnm h.book.L
  ·exact hnm h.book.H
  ·exact hne h.book.sblk (by decide)
  ·exact hnm h.book.S.map
 ·exact (o _ (Array.getElem?_eq_some_iff.1 h.ent).1 (hne h.ent (by decide))).trans h.ent
 ·exact (o _ (Array.getElem?_eq_some_iff.1 h.lot).1 (hne h.lot (by decide))).trans h.lot
theorem NewSt.other {w0 w1 w2 : World} {p' b' : Nat} {m : List Ln} (h : NewSt w0 w1 p' b' m) {A : Nat} (hf : Off [A] w1 w2) (hA : w0.heap.size ≤ A) {d : Array Value} (nA : w1.heap[A]? = some (.cells d 68 (0, 0))) : NewSt w0 w2 p' b' m := by
 have o : ∀ k, k < w1.heap.size → k ≠ A → w2.heap[k]? = w1.heap[k]? := fun k hk hn => hf.block k hk (by simpa using hn)
 have n1 : p' ≠ A := fun e9 => absurd (cellsT h.blk (e9 ▸ nA)) (by decide)
 have n2 : b' ≠ A := fun e9 => by
  obtain ⟨es, ck, hb, _⟩ := h.st.map
  rw [e9, nA] at hb
  cases hb
 have k1 := o p' h.st.lt.1 n1
 have k2 := o b' h.st.lt.2 n2
 exact ⟨h.st.of_blocks k1 k2, k1.trans h.blk, h.lp, h.lb, h.below.trans (hf.below h.below.size (by simpa using hA))⟩
theorem keyS_size {c : ByteArray} {kl : Lit} (h : keyOf Tryz.prog 9 (.string c) = some kl) : c.size ≤ maxLen := by
 rw [keyOf_string Tryz.underlying9] at h
 simp only [mapKey, Tryz.underlying9] at h
 by_cases hc : c.size ≤ maxLen
 ·exact hc
 ·simp [hc] at h
theorem turn_bound (w : World) (s : Nat → Addr) (B : Nat) (x : Bl) (b : Bk) (e : En) (h : IsBk w B x b) (hz : SzE e) (hs : Bs w s) (k i : Nat) (l : Lh) (g : Gs) (hl : b.2.1[k]? = some l) (hid : nameL l = e.2.2.1.1) (hg : b.1[i]? = some g) (hgn : nameG g = l.1.2.1) (he : entErr e = 0) (h1 : e.1 ≠ kGoods) (h2 : e.1 ≠ kLot) (hc : stkE e b.2.2 = 0) (hh : 0 ≤ heldN e.1 l.2 e.2.2.2.2.2) (ho : heldN e.1 l.2 e.2.2.2.2.2 ≤ ofL (stkL e b.2.2) e.2.2.1.1) (hu : okSu (addSu e.1 g.2 e.2.2.2.2.2) = false) :
  Calls Tryz.prog 37 #[.pointer (some ⟨x.p, 0, none⟩), agE e] w fun r w' => r = .returned (errP s (2)) ∧ IsBk w' B x b ∧ Off x.all w w' := by
 obtain ⟨ps, bs, h⟩ := h
 have hE := BlkE.new w e
 have hb1 : Below w.heap.size w (w.alloc (celE e)) := (Below.refl _ w).alloc (Nat.le_refl _) _
 obtain ⟨W, hW⟩ : ∃ W, w.alloc (celE e) = W := ⟨_, rfl⟩
 rw [hW] at hE hb1
 have hB1 := h.all hb1
 have hlm := List.mem_of_getElem? hl
 have hgm := List.mem_of_getElem? hg
 have hq := hB1.askL_yes hz.li hlm hid
 obtain ⟨V1, V2, V3, V4, V5, e1, e2, e3, e4, e5, ⟨k1, k2, k3, k4, k5⟩, ⟨k6, k7⟩, ⟨k8, k9⟩, ⟨k10, k11⟩, n5, kb1, kb5⟩ := boxed4 W (.string ⟨#[]⟩) (.string ⟨#[]⟩) (.int .i64 0) (.int .i64 0) (.string l.1.1) (.string l.1.2.1) (.int .i64 l.1.2.2.1) (.int .i64 l.1.2.2.2) 39
 have hbV : Below w.heap.size w V5 := hb1.trans (kb5.mono hb1.size)
 have hT : Tw w V5.drew B x ps bs b e W.heap.size l.1 := Tw.drew ⟨hbV, h.all hbV, hE.below kb5, n5, hb1.size⟩
 have hC1 := stockAfter_any V5.drew s ps bs b.2.2 e hT.book.S hz (hs.below hT.below).five he h1 h2
 have hnum := piece_num he h1 h2
 have hsum := h.ok.wf.sums g hgm
 have hheld := h.ok.wf.held l hlm
 have hheld2 : l.2 ≤ 1099511627776 := Int.le_trans hheld.2 (h.ok.wf.st.most _)
 rw [hc, errP_zero] at hC1
 have HH : Hid (∀ W, Calls Tryz.prog 69 #[.int .i64 l.2, agE e] W fun r w' => r = .returned (.int .i64 (heldN e.1 l.2 e.2.2.2.2.2)) ∧ Below W.heap.size W w') := fun W => heldAfter_any l.2 e W ⟨hheld.1, hheld2⟩ hnum
 have HLH : Hid (∀ W, Tw w W B x ps bs b e W.heap.size l.1 ∨ BkAt W B x ps bs b → (Instr.lookup 90 (.map (some x.h)) (.string e.2.2.1.1) false).run Tryz.prog W = .ok (.int .i64 l.2) W) := fun W hW => (hW.elim Tw.book id).lookH hz.li hlm hid
 have HO : Hid (∀ W p' b', IsStock W p' b' (stkL e b.2.2) → Calls Tryz.prog 70 #[.pointer (some ⟨p', 0, none⟩), .string e.2.2.1.1] W fun r w' => r = .returned (.int .i64 (ofL (stkL e b.2.2) e.2.2.1.1)) ∧ Below W.heap.size W w') := fun W p' b' hi => of_any e.2.2.1.1 W p' b' (stkL e b.2.2) hi
 have hcz : l.1.2.1.size ≤ maxLen := by
  obtain ⟨kl, hkl⟩ := h.G.keys _ (List.mem_map.2 ⟨g, hgm, rfl⟩)
  have hss : g.1.1.size ≤ maxLen := by
   simp only [entG] at hkl
   exact keyS_size hkl
  rw [← hgn]; exact hss
 have HU : Hid (∀ W, Calls Tryz.prog 71 #[agU g.2, agE e] W fun r w' => r = .returned (agU (addSu e.1 g.2 e.2.2.2.2.2)) ∧ Below W.heap.size W w') := fun W => sumsAfter_any g.2 e W hsum hnum
 have HLU : Hid (∀ W, BkAt W B x ps bs b → (Instr.lookup 88 (.map (some x.u)) (.string l.1.2.1) false).run Tryz.prog W = .ok (.agg #[.int .i64 g.2.1, .int .i64 g.2.2.1, .int .i64 g.2.2.2.1, .int .i64 g.2.2.2.2]) W) := fun W hW => hW.lookU hcz hgm hgn
 have HWl : Hid (∀ W, Calls Tryz.prog 72 #[agU (addSu e.1 g.2 e.2.2.2.2.2)] W fun r w' => r = .returned (.bool false) ∧ Below W.heap.size W w') := fun W => hu ▸ well_any _ W
 have HSs : Hid (∀ W, Below w.heap.size w W → Bs W s) := fun W hb => hs.below hb
 have c3 := hE.at.c3
 obtain ⟨_, _, p2, _⟩ := hB1.cells
 have p4 := hT.book.cells.2.2.2.2.1
 obtain ⟨t0, t1, t2, t3, t4, t5, t6, t7, t8, t9, t10, t11, t12, t13⟩ := hT.ent.at; (try simp only at t0 t1 t2 t3 t4 t5 t6 t7 t8 t9 t10 t11 t12 t13)
 have HT : Hid (Tw _ _ _ _ _ _ _ _ _ _) := hT
 have HC1 : Hid (Calls Tryz.prog 68 _ _ _) := hC1
 have HV : Hid (w.heap.size ≤ V5.drew.heap.size) := hbV.size
 generalize hHN : heldN e.1 l.2 e.2.2.2.2.2 = hd at *
 generalize hON : ofL (stkL e b.2.2) e.2.2.1.1 = od at *
 clear kb1 kb5 hbV hb1 hB1 hE h hs hz hT hC1 hnum hsum hheld hheld2 hlm hgm hl hg hid hgn he h1 h2 hc n5 hcz
 obtain ⟨ak, ⟨agc, agp⟩, ⟨ali, alc, alu, alk⟩, ⟨afz, afr, afb⟩, ⟨atz, atr, atb⟩, an⟩ := e
 obtain ⟨⟨lli, llc, llu, llk⟩, lh⟩ := l
 generalize hSN : addSu ak g.2 an = su at *
 obtain ⟨⟨ggc, ggp⟩, g1, g2, g3, g4⟩ := g
 obtain ⟨s1, s2, s3, s4⟩ := su
 unfold agE celE agU at *
 simp only at *
 go_enter Tryz.func37, Tryz.ntmps37
 go_wp2_with (at_lookup; refine wpL_ask rfl _ _ 89 rfl x.l _ _ rfl rfl hq ?_)
 go_region_held3 (fun w' => w'.cell? ⟨x.p, 4, none⟩ = some (.pointer (some ⟨ps, 0, none⟩)) ∧ w'.cell? ⟨w.heap.size, 0, none⟩ = some (.string ak) ∧ w'.cell? ⟨w.heap.size, 1, none⟩ = some (.string agc) ∧ w'.cell? ⟨w.heap.size, 2, none⟩ = some (.int .i64 agp) ∧ w'.cell? ⟨w.heap.size, 3, none⟩ = some (.string ali) ∧ w'.cell? ⟨w.heap.size, 4, none⟩ = some (.string alc) ∧ w'.cell? ⟨w.heap.size, 5, none⟩ = some (.int .i64 alu) ∧ w'.cell? ⟨w.heap.size, 6, none⟩ = some (.int .i64 alk) ∧ w'.cell? ⟨w.heap.size, 7, none⟩ = some (.string afz) ∧ w'.cell? ⟨w.heap.size, 8, none⟩ = some (.int .i64 afr) ∧ w'.cell? ⟨w.heap.size, 9, none⟩ = some (.int .i64 afb) ∧ w'.cell? ⟨w.heap.size, 10, none⟩ = some (.string atz) ∧ w'.cell? ⟨w.heap.size, 11, none⟩ = some (.int .i64 atr) ∧ w'.cell? ⟨w.heap.size, 12, none⟩ = some (.int .i64 atb) ∧ w'.cell? ⟨w.heap.size, 13, none⟩ = some (.int .i64 an)) (go_keep) (first | (go_at_call 68; refine HC1.out.mono ?_; rintro r w2 ⟨p', b', rfl, hns⟩; have h2 := HT.out.go hns.below; have p4b := h2.book.cells.2.2.2.2.1; obtain ⟨v0, v1, v2, v3, v4, v5, v6, v7, v8, v9, v10, v11, v12, v13⟩ := h2.ent.at; (try simp only at v0 v1 v2 v3 v4 v5 v6 v7 v8 v9 v10 v11 v12 v13); have HN2 : Hid (NewSt _ _ _ _ _) := hns; have HT2 : Hid (Tw _ _ _ _ _ _ _ _ _ _) := h2; clear hns h2))
 go_wp2
 have h2d := HT2.out.drew
 have p3 := h2d.book.cells.2.2.2.1
 have lh2 := HLH.out _ (Or.inr h2d.book)
 obtain ⟨u0, u1, u2, u3, u4, u5, u6, u7, u8, u9, u10, u11, u12, u13⟩ := h2d.ent.at; (try simp only at u0 u1 u2 u3 u4 u5 u6 u7 u8 u9 u10 u11 u12 u13)
 have H2d : Hid (Tw _ _ _ _ _ _ _ _ _ _) := h2d
 clear h2d
 go_region_held3 (fun w' => w'.cell? ⟨x.p, 3, none⟩ = some (.map (some x.h)) ∧ (Instr.lookup 90 (.map (some x.h)) (.string ali) false).run Tryz.prog w' = .ok (.int .i64 lh) w' ∧ w'.cell? ⟨w.heap.size, 0, none⟩ = some (.string ak) ∧ w'.cell? ⟨w.heap.size, 1, none⟩ = some (.string agc) ∧ w'.cell? ⟨w.heap.size, 2, none⟩ = some (.int .i64 agp) ∧ w'.cell? ⟨w.heap.size, 3, none⟩ = some (.string ali) ∧ w'.cell? ⟨w.heap.size, 4, none⟩ = some (.string alc) ∧ w'.cell? ⟨w.heap.size, 5, none⟩ = some (.int .i64 alu) ∧ w'.cell? ⟨w.heap.size, 6, none⟩ = some (.int .i64 alk) ∧ w'.cell? ⟨w.heap.size, 7, none⟩ = some (.string afz) ∧ w'.cell? ⟨w.heap.size, 8, none⟩ = some (.int .i64 afr) ∧ w'.cell? ⟨w.heap.size, 9, none⟩ = some (.int .i64 afb) ∧ w'.cell? ⟨w.heap.size, 10, none⟩ = some (.string atz) ∧ w'.cell? ⟨w.heap.size, 11, none⟩ = some (.int .i64 atr) ∧ w'.cell? ⟨w.heap.size, 12, none⟩ = some (.int .i64 atb) ∧ w'.cell? ⟨w.heap.size, 13, none⟩ = some (.int .i64 an)) (go_keep) (first | (go_at_call 69; refine (HH.out _).mono ?_; rintro r w3 ⟨rfl, hb3⟩; have HN3 : Hid (NewSt _ _ _ _ _) := (HN2.out.later (Below.refl _ _).drew).later hb3; have h3 := H2d.out.go hb3; have p3b := h3.book.cells.2.2.2.1; have lh3 := HLH.out _ (Or.inr h3.book); obtain ⟨y0, y1, y2, y3, y4, y5, y6, y7, y8, y9, y10, y11, y12, y13⟩ := h3.ent.at; (try simp only at y0 y1 y2 y3 y4 y5 y6 y7 y8 y9 y10 y11 y12 y13); have HT3 : Hid (Tw _ _ _ _ _ _ _ _ _ _) := h3; clear hb3 h3))
 go_wp2_with (go_at_call 70; refine (HO.out _ _ _ HN3.out.st).mono ?_; rintro r w4 ⟨rfl, hb4⟩; have hs4 := (HSs.out _ (HT3.out.go hb4).below).five.short; have HN4 : Hid (NewSt _ _ _ _ _) := HN3.out.later hb4; have HT4 : Hid (Tw _ _ _ _ _ _ _ _ _ _) := HT3.out.go hb4; clear hb4)
 have h4d := HT4.out.drew
 have p1 := h4d.book.cells.2.1
 have lc4 := h4d.code
 have lu4 := HLU.out _ h4d.book
 (try simp only at lc4)
 obtain ⟨z0, z1, z2, z3, z4, z5, z6, z7, z8, z9, z10, z11, z12, z13⟩ := h4d.ent.at; (try simp only at z0 z1 z2 z3 z4 z5 z6 z7 z8 z9 z10 z11 z12 z13)
 have hbA : Below w4.drew.heap.size w4.drew (w4.drew.alloc (.cells #[.int .i64 0, .int .i64 0, .int .i64 0, .int .i64 0] 68)) := (Below.refl _ _).alloc (Nat.le_refl _) _
 have nA := heap_alloc_new w4.drew (.cells #[.int .i64 0, .int .i64 0, .int .i64 0, .int .i64 0] 68)
 obtain ⟨A1, eA⟩ : ∃ A1, w4.drew.alloc (.cells #[.int .i64 0, .int .i64 0, .int .i64 0, .int .i64 0] 68) = A1 := ⟨_, rfl⟩
 rw [eA] at hbA nA
 have hA := h4d.go hbA
 have p1A := hA.book.cells.2.1
 have lcA := hA.code
 have luA := HLU.out _ hA.book
 (try simp only at lcA)
 obtain ⟨q0, q1, q2, q3, q4, q5, q6, q7, q8, q9, q10, q11, q12, q13⟩ := hA.ent.at; (try simp only at q0 q1 q2 q3 q4 q5 q6 q7 q8 q9 q10 q11 q12 q13)
 have H4d : Hid (Tw _ _ _ _ _ _ _ _ _ _) := h4d
 have HA : Hid (Tw _ _ _ _ _ _ _ _ _ _) := hA
 have HnA : Hid (A1.heap[w4.heap.size]? = some (.cells #[.int .i64 0, .int .i64 0, .int .i64 0, .int .i64 0] 68 (0, 0))) := nA
 have HNd : Hid (NewSt _ w4.drew _ _ _) := HN4.out.later (Below.refl _ _).drew
 have HNA : Hid (NewSt _ A1 _ _ _) := (HN4.out.later (Below.refl _ _).drew).later hbA
 have HUA : Hid (Calls Tryz.prog 71 _ A1 _) := HU.out A1
 have HUB : Hid (Calls Tryz.prog 71 _ w4.drew _) := HU.out w4.drew
 have HWn : Hid (w.heap.size ≤ w4.heap.size) := h4d.below.size
 have HWm : Hid (V5.drew.heap.size ≤ w4.heap.size) := HN4.out.below.size
 clear h4d hA hbA nA
 go_region_held3 (fun w' => w'.cell? ⟨x.p, 1, none⟩ = some (.map (some x.u)) ∧ w'.cell? ⟨W.heap.size, 1, none⟩ = some (.string llc) ∧ (Instr.lookup 88 (.map (some x.u)) (.string llc) false).run Tryz.prog w' = .ok (.agg #[.int .i64 g1, .int .i64 g2, .int .i64 g3, .int .i64 g4]) w' ∧ w'.cell? ⟨w.heap.size, 0, none⟩ = some (.string ak) ∧ w'.cell? ⟨w.heap.size, 1, none⟩ = some (.string agc) ∧ w'.cell? ⟨w.heap.size, 2, none⟩ = some (.int .i64 agp) ∧ w'.cell? ⟨w.heap.size, 3, none⟩ = some (.string ali) ∧ w'.cell? ⟨w.heap.size, 4, none⟩ = some (.string alc) ∧ w'.cell? ⟨w.heap.size, 5, none⟩ = some (.int .i64 alu) ∧ w'.cell? ⟨w.heap.size, 6, none⟩ = some (.int .i64 alk) ∧ w'.cell? ⟨w.heap.size, 7, none⟩ = some (.string afz) ∧ w'.cell? ⟨w.heap.size, 8, none⟩ = some (.int .i64 afr) ∧ w'.cell? ⟨w.heap.size, 9, none⟩ = some (.int .i64 afb) ∧ w'.cell? ⟨w.heap.size, 10, none⟩ = some (.string atz) ∧ w'.cell? ⟨w.heap.size, 11, none⟩ = some (.int .i64 atr) ∧ w'.cell? ⟨w.heap.size, 12, none⟩ = some (.int .i64 atb) ∧ w'.cell? ⟨w.heap.size, 13, none⟩ = some (.int .i64 an)) (go_keep) (first | (go_at_call 71; refine HUA.out.mono ?_; rintro r w5 ⟨rfl, hb5⟩; have nA5 := (hb5.block _ (Array.getElem?_eq_some_iff.1 HnA.out).1).trans HnA.out; obtain ⟨T2, T3, T4, T5, f2, f3, f4, f5, ⟨j1, j2, j3, j4, j5⟩, ⟨j6, j7⟩, ⟨j8, j9⟩, ⟨j10, j11⟩, n6, fo⟩ := sets4 nA5 (.int .i64 s1) (.int .i64 s2) (.int .i64 s3) (.int .i64 s4); have h5 := HA.out.go hb5; have h55 := h5.turn fo HWn.out nA5; have fap := h5.book.cells.2.1; have fac := h5.code; (try simp only at fac); have fal := HLU.out _ h5.book; obtain ⟨fa0, fa1, fa2, fa3, fa4, fa5, fa6, fa7, fa8, fa9, fa10, fa11, fa12, fa13⟩ := h5.ent.at; (try simp only at fa0 fa1 fa2 fa3 fa4 fa5 fa6 fa7 fa8 fa9 fa10 fa11 fa12 fa13); have fbp := h55.book.cells.2.1; have fbc := h55.code; (try simp only at fbc); have fbl := HLU.out _ h55.book; obtain ⟨fb0, fb1, fb2, fb3, fb4, fb5, fb6, fb7, fb8, fb9, fb10, fb11, fb12, fb13⟩ := h55.ent.at; (try simp only at fb0 fb1 fb2 fb3 fb4 fb5 fb6 fb7 fb8 fb9 fb10 fb11 fb12 fb13); have HT5 : Hid (Tw _ T5 _ _ _ _ _ _ _ _) := h55; have HN5 : Hid (NewSt _ T5 _ _ _) := (HNA.out.later hb5).other fo HWm.out nA5; have H6 : Hid (T5.heap[w4.heap.size]? = _) := n6; clear fo n6 hb5 nA5 h5 h55) | (go_at_call 71; refine HUB.out.mono ?_; rintro r w5 ⟨rfl, hb5⟩; obtain ⟨T1, T2, T3, T4, T5, f1, f2, f3, f4, f5, ⟨j1, j2, j3, j4, j5⟩, ⟨j6, j7⟩, ⟨j8, j9⟩, ⟨j10, j11⟩, n6, jb1, jb5⟩ := boxed4 w5 (.int .i64 0) (.int .i64 0) (.int .i64 0) (.int .i64 0) (.int .i64 s1) (.int .i64 s2) (.int .i64 s3) (.int .i64 s4) 68; have h5 := H4d.out.go hb5; have h51 := h5.go jb1; have h55 := h5.go jb5; have fap := h5.book.cells.2.1; have fac := h5.code; (try simp only at fac); have fal := HLU.out _ h5.book; obtain ⟨fa0, fa1, fa2, fa3, fa4, fa5, fa6, fa7, fa8, fa9, fa10, fa11, fa12, fa13⟩ := h5.ent.at; (try simp only at fa0 fa1 fa2 fa3 fa4 fa5 fa6 fa7 fa8 fa9 fa10 fa11 fa12 fa13); have fbp := h51.book.cells.2.1; have fbc := h51.code; (try simp only at fbc); have fbl := HLU.out _ h51.book; obtain ⟨fb0, fb1, fb2, fb3, fb4, fb5, fb6, fb7, fb8, fb9, fb10, fb11, fb12, fb13⟩ := h51.ent.at; (try simp only at fb0 fb1 fb2 fb3 fb4 fb5 fb6 fb7 fb8 fb9 fb10 fb11 fb12 fb13); have fcp := h55.book.cells.2.1; have fcc := h55.code; (try simp only at fcc); have fcl := HLU.out _ h55.book; obtain ⟨fc0, fc1, fc2, fc3, fc4, fc5, fc6, fc7, fc8, fc9, fc10, fc11, fc12, fc13⟩ := h55.ent.at; (try simp only at fc0 fc1 fc2 fc3 fc4 fc5 fc6 fc7 fc8 fc9 fc10 fc11 fc12 fc13); have HT5 : Hid (Tw _ T5 _ _ _ _ _ _ _ _) := h55; have HN5 : Hid (NewSt _ T5 _ _ _) := (HNd.out.later hb5).later jb5; have H6 : Hid (T5.heap[w5.heap.size]? = _) := n6; clear jb1 jb5 n6 hb5 h5 h51 h55))
 all_goals
  obtain ⟨m0, m1, m2, m3⟩ := cells4 H6.out
  go_wp2_with (go_at_call 72; refine (HWl.out _).mono ?_; rintro r w6 ⟨rfl, hb6⟩; have hs6 := (HSs.out _ (HT5.out.go hb6).below).five.two.bound; have HT6 : Hid (Tw _ _ _ _ _ _ _ _ _ _) := HT5.out.go hb6; clear hb6)
  go_ret
  exact ⟨rfl, HT6.out.fin_⟩
theorem turn_ok (w : World) (s : Nat → Addr) (B : Nat) (x : Bl) (b : Bk) (e : En) (h : IsBk w B x b) (hz : SzE e) (hs : Bs w s) (k i : Nat) (l : Lh) (g : Gs) (hl : b.2.1[k]? = some l) (hid : nameL l = e.2.2.1.1) (hg : b.1[i]? = some g) (hgn : nameG g = l.1.2.1) (he : entErr e = 0) (h1 : e.1 ≠ kGoods) (h2 : e.1 ≠ kLot) (hc : stkE e b.2.2 = 0) (hh : 0 ≤ heldN e.1 l.2 e.2.2.2.2.2) (ho : heldN e.1 l.2 e.2.2.2.2.2 ≤ ofL (stkL e b.2.2) e.2.2.1.1) (hu : okSu (addSu e.1 g.2 e.2.2.2.2.2) = true) :
  Calls Tryz.prog 37 #[.pointer (some ⟨x.p, 0, none⟩), agE e] w fun r w' => r = .returned (errP s (0)) ∧ IsBk w' B x (pieceB b e k l i g) ∧ Off x.all w w' := by
 obtain ⟨ps, bs, h⟩ := h
 have hE := BlkE.new w e
 have hb1 : Below w.heap.size w (w.alloc (celE e)) := (Below.refl _ w).alloc (Nat.le_refl _) _
 obtain ⟨W, hW⟩ : ∃ W, w.alloc (celE e) = W := ⟨_, rfl⟩
 rw [hW] at hE hb1
 have hB1 := h.all hb1
 have hlm := List.mem_of_getElem? hl
 have hgm := List.mem_of_getElem? hg
 have hq := hB1.askL_yes hz.li hlm hid
 obtain ⟨V1, V2, V3, V4, V5, e1, e2, e3, e4, e5, ⟨k1, k2, k3, k4, k5⟩, ⟨k6, k7⟩, ⟨k8, k9⟩, ⟨k10, k11⟩, n5, kb1, kb5⟩ := boxed4 W (.string ⟨#[]⟩) (.string ⟨#[]⟩) (.int .i64 0) (.int .i64 0) (.string l.1.1) (.string l.1.2.1) (.int .i64 l.1.2.2.1) (.int .i64 l.1.2.2.2) 39
 have hbV : Below w.heap.size w V5 := hb1.trans (kb5.mono hb1.size)
 have hT : Tw w V5.drew B x ps bs b e W.heap.size l.1 := Tw.drew ⟨hbV, h.all hbV, hE.below kb5, n5, hb1.size⟩
 have hC1 := stockAfter_any V5.drew s ps bs b.2.2 e hT.book.S hz (hs.below hT.below).five he h1 h2
 have hnum := piece_num he h1 h2
 have hsum := h.ok.wf.sums g hgm
 have hheld := h.ok.wf.held l hlm
 have hheld2 : l.2 ≤ 1099511627776 := Int.le_trans hheld.2 (h.ok.wf.st.most _)
 rw [hc, errP_zero] at hC1
 have HH : Hid (∀ W, Calls Tryz.prog 69 #[.int .i64 l.2, agE e] W fun r w' => r = .returned (.int .i64 (heldN e.1 l.2 e.2.2.2.2.2)) ∧ Below W.heap.size W w') := fun W => heldAfter_any l.2 e W ⟨hheld.1, hheld2⟩ hnum
 have HLH : Hid (∀ W, Tw w W B x ps bs b e W.heap.size l.1 ∨ BkAt W B x ps bs b → (Instr.lookup 90 (.map (some x.h)) (.string e.2.2.1.1) false).run Tryz.prog W = .ok (.int .i64 l.2) W) := fun W hW => (hW.elim Tw.book id).lookH hz.li hlm hid
 have HO : Hid (∀ W p' b', IsStock W p' b' (stkL e b.2.2) → Calls Tryz.prog 70 #[.pointer (some ⟨p', 0, none⟩), .string e.2.2.1.1] W fun r w' => r = .returned (.int .i64 (ofL (stkL e b.2.2) e.2.2.1.1)) ∧ Below W.heap.size W w') := fun W p' b' hi => of_any e.2.2.1.1 W p' b' (stkL e b.2.2) hi
 have hcz : l.1.2.1.size ≤ maxLen := by
  obtain ⟨kl, hkl⟩ := h.G.keys _ (List.mem_map.2 ⟨g, hgm, rfl⟩)
  have hss : g.1.1.size ≤ maxLen := by
   simp only [entG] at hkl
   exact keyS_size hkl
  rw [← hgn]; exact hss
 have HU : Hid (∀ W, Calls Tryz.prog 71 #[agU g.2, agE e] W fun r w' => r = .returned (agU (addSu e.1 g.2 e.2.2.2.2.2)) ∧ Below W.heap.size W w') := fun W => sumsAfter_any g.2 e W hsum hnum
 have HLU : Hid (∀ W, BkAt W B x ps bs b → (Instr.lookup 88 (.map (some x.u)) (.string l.1.2.1) false).run Tryz.prog W = .ok (.agg #[.int .i64 g.2.1, .int .i64 g.2.2.1, .int .i64 g.2.2.2.1, .int .i64 g.2.2.2.2]) W) := fun W hW => hW.lookU hcz hgm hgn
 have HWl : Hid (∀ W, Calls Tryz.prog 72 #[agU (addSu e.1 g.2 e.2.2.2.2.2)] W fun r w' => r = .returned (.bool true) ∧ Below W.heap.size W w') := fun W => hu ▸ well_any _ W
 have HL : Hid (∀ W w0 p' b', Tw w W B x ps bs b e w0 l.1 → ∀ w9, NewSt w9 W p' b' (stkL e b.2.2) → w.heap.size ≤ w9.heap.size → _) := fun W w0 p' b' ht w9 hn hw => ht.last h hn hw hz hl hid hg hgn hcz (by have := hnum.1; omega) (by unfold pieceE; rw [if_pos hc, if_neg (by omega), if_pos hu])
 have HSs : Hid (∀ W, Below w.heap.size w W → Bs W s) := fun W hb => hs.below hb
 have c3 := hE.at.c3
 obtain ⟨_, _, p2, _⟩ := hB1.cells
 have p4 := hT.book.cells.2.2.2.2.1
 obtain ⟨t0, t1, t2, t3, t4, t5, t6, t7, t8, t9, t10, t11, t12, t13⟩ := hT.ent.at; (try simp only at t0 t1 t2 t3 t4 t5 t6 t7 t8 t9 t10 t11 t12 t13)
 have HT : Hid (Tw _ _ _ _ _ _ _ _ _ _) := hT
 have HC1 : Hid (Calls Tryz.prog 68 _ _ _) := hC1
 have HV : Hid (w.heap.size ≤ V5.drew.heap.size) := hbV.size
 generalize hHN : heldN e.1 l.2 e.2.2.2.2.2 = hd at *
 generalize hON : ofL (stkL e b.2.2) e.2.2.1.1 = od at *
 clear kb1 kb5 hbV hb1 hB1 hE h hs hz hT hC1 hnum hsum hheld hheld2 hlm hgm hl hg hid hgn he h1 h2 hc n5 hcz
 obtain ⟨ak, ⟨agc, agp⟩, ⟨ali, alc, alu, alk⟩, ⟨afz, afr, afb⟩, ⟨atz, atr, atb⟩, an⟩ := e
 obtain ⟨⟨lli, llc, llu, llk⟩, lh⟩ := l
 generalize hSN : addSu ak g.2 an = su at *
 obtain ⟨⟨ggc, ggp⟩, g1, g2, g3, g4⟩ := g
 obtain ⟨s1, s2, s3, s4⟩ := su
 unfold agE celE agU at *
 simp only at *
 go_enter Tryz.func37, Tryz.ntmps37
 go_wp2_with (at_lookup; refine wpL_ask rfl _ _ 89 rfl x.l _ _ rfl rfl hq ?_)
 go_region_held3 (fun w' => w'.cell? ⟨x.p, 4, none⟩ = some (.pointer (some ⟨ps, 0, none⟩)) ∧ w'.cell? ⟨w.heap.size, 0, none⟩ = some (.string ak) ∧ w'.cell? ⟨w.heap.size, 1, none⟩ = some (.string agc) ∧ w'.cell? ⟨w.heap.size, 2, none⟩ = some (.int .i64 agp) ∧ w'.cell? ⟨w.heap.size, 3, none⟩ = some (.string ali) ∧ w'.cell? ⟨w.heap.size, 4, none⟩ = some (.string alc) ∧ w'.cell? ⟨w.heap.size, 5, none⟩ = some (.int .i64 alu) ∧ w'.cell? ⟨w.heap.size, 6, none⟩ = some (.int .i64 alk) ∧ w'.cell? ⟨w.heap.size, 7, none⟩ = some (.string afz) ∧ w'.cell? ⟨w.heap.size, 8, none⟩ = some (.int .i64 afr) ∧ w'.cell? ⟨w.heap.size, 9, none⟩ = some (.int .i64 afb) ∧ w'.cell? ⟨w.heap.size, 10, none⟩ = some (.string atz) ∧ w'.cell? ⟨w.heap.size, 11, none⟩ = some (.int .i64 atr) ∧ w'.cell? ⟨w.heap.size, 12, none⟩ = some (.int .i64 atb) ∧ w'.cell? ⟨w.heap.size, 13, none⟩ = some (.int .i64 an)) (go_keep) (first | (go_at_call 68; refine HC1.out.mono ?_; rintro r w2 ⟨p', b', rfl, hns⟩; have h2 := HT.out.go hns.below; have p4b := h2.book.cells.2.2.2.2.1; obtain ⟨v0, v1, v2, v3, v4, v5, v6, v7, v8, v9, v10, v11, v12, v13⟩ := h2.ent.at; (try simp only at v0 v1 v2 v3 v4 v5 v6 v7 v8 v9 v10 v11 v12 v13); have HN2 : Hid (NewSt _ _ _ _ _) := hns; have HT2 : Hid (Tw _ _ _ _ _ _ _ _ _ _) := h2; clear hns h2))
 go_wp2
 have h2d := HT2.out.drew
 have p3 := h2d.book.cells.2.2.2.1
 have lh2 := HLH.out _ (Or.inr h2d.book)
 obtain ⟨u0, u1, u2, u3, u4, u5, u6, u7, u8, u9, u10, u11, u12, u13⟩ := h2d.ent.at; (try simp only at u0 u1 u2 u3 u4 u5 u6 u7 u8 u9 u10 u11 u12 u13)
 have H2d : Hid (Tw _ _ _ _ _ _ _ _ _ _) := h2d
 clear h2d
 go_region_held3 (fun w' => w'.cell? ⟨x.p, 3, none⟩ = some (.map (some x.h)) ∧ (Instr.lookup 90 (.map (some x.h)) (.string ali) false).run Tryz.prog w' = .ok (.int .i64 lh) w' ∧ w'.cell? ⟨w.heap.size, 0, none⟩ = some (.string ak) ∧ w'.cell? ⟨w.heap.size, 1, none⟩ = some (.string agc) ∧ w'.cell? ⟨w.heap.size, 2, none⟩ = some (.int .i64 agp) ∧ w'.cell? ⟨w.heap.size, 3, none⟩ = some (.string ali) ∧ w'.cell? ⟨w.heap.size, 4, none⟩ = some (.string alc) ∧ w'.cell? ⟨w.heap.size, 5, none⟩ = some (.int .i64 alu) ∧ w'.cell? ⟨w.heap.size, 6, none⟩ = some (.int .i64 alk) ∧ w'.cell? ⟨w.heap.size, 7, none⟩ = some (.string afz) ∧ w'.cell? ⟨w.heap.size, 8, none⟩ = some (.int .i64 afr) ∧ w'.cell? ⟨w.heap.size, 9, none⟩ = some (.int .i64 afb) ∧ w'.cell? ⟨w.heap.size, 10, none⟩ = some (.string atz) ∧ w'.cell? ⟨w.heap.size, 11, none⟩ = some (.int .i64 atr) ∧ w'.cell? ⟨w.heap.size, 12, none⟩ = some (.int .i64 atb) ∧ w'.cell? ⟨w.heap.size, 13, none⟩ = some (.int .i64 an)) (go_keep) (first | (go_at_call 69; refine (HH.out _).mono ?_; rintro r w3 ⟨rfl, hb3⟩; have HN3 : Hid (NewSt _ _ _ _ _) := (HN2.out.later (Below.refl _ _).drew).later hb3; have h3 := H2d.out.go hb3; have p3b := h3.book.cells.2.2.2.1; have lh3 := HLH.out _ (Or.inr h3.book); obtain ⟨y0, y1, y2, y3, y4, y5, y6, y7, y8, y9, y10, y11, y12, y13⟩ := h3.ent.at; (try simp only at y0 y1 y2 y3 y4 y5 y6 y7 y8 y9 y10 y11 y12 y13); have HT3 : Hid (Tw _ _ _ _ _ _ _ _ _ _) := h3; clear hb3 h3))
 go_wp2_with (go_at_call 70; refine (HO.out _ _ _ HN3.out.st).mono ?_; rintro r w4 ⟨rfl, hb4⟩; have hs4 := (HSs.out _ (HT3.out.go hb4).below).five.short; have HN4 : Hid (NewSt _ _ _ _ _) := HN3.out.later hb4; have HT4 : Hid (Tw _ _ _ _ _ _ _ _ _ _) := HT3.out.go hb4; clear hb4)
 have h4d := HT4.out.drew
 have p1 := h4d.book.cells.2.1
 have lc4 := h4d.code
 have lu4 := HLU.out _ h4d.book
 (try simp only at lc4)
 obtain ⟨z0, z1, z2, z3, z4, z5, z6, z7, z8, z9, z10, z11, z12, z13⟩ := h4d.ent.at; (try simp only at z0 z1 z2 z3 z4 z5 z6 z7 z8 z9 z10 z11 z12 z13)
 have hbA : Below w4.drew.heap.size w4.drew (w4.drew.alloc (.cells #[.int .i64 0, .int .i64 0, .int .i64 0, .int .i64 0] 68)) := (Below.refl _ _).alloc (Nat.le_refl _) _
 have nA := heap_alloc_new w4.drew (.cells #[.int .i64 0, .int .i64 0, .int .i64 0, .int .i64 0] 68)
 obtain ⟨A1, eA⟩ : ∃ A1, w4.drew.alloc (.cells #[.int .i64 0, .int .i64 0, .int .i64 0, .int .i64 0] 68) = A1 := ⟨_, rfl⟩
 rw [eA] at hbA nA
 have hA := h4d.go hbA
 have p1A := hA.book.cells.2.1
 have lcA := hA.code
 have luA := HLU.out _ hA.book
 (try simp only at lcA)
 obtain ⟨q0, q1, q2, q3, q4, q5, q6, q7, q8, q9, q10, q11, q12, q13⟩ := hA.ent.at; (try simp only at q0 q1 q2 q3 q4 q5 q6 q7 q8 q9 q10 q11 q12 q13)
 have H4d : Hid (Tw _ _ _ _ _ _ _ _ _ _) := h4d
 have HA : Hid (Tw _ _ _ _ _ _ _ _ _ _) := hA
 have HnA : Hid (A1.heap[w4.heap.size]? = some (.cells #[.int .i64 0, .int .i64 0, .int .i64 0, .int .i64 0] 68 (0, 0))) := nA
 have HNd : Hid (NewSt _ w4.drew _ _ _) := HN4.out.later (Below.refl _ _).drew
 have HNA : Hid (NewSt _ A1 _ _ _) := (HN4.out.later (Below.refl _ _).drew).later hbA
 have HUA : Hid (Calls Tryz.prog 71 _ A1 _) := HU.out A1
 have HUB : Hid (Calls Tryz.prog 71 _ w4.drew _) := HU.out w4.drew
 have HWn : Hid (w.heap.size ≤ w4.heap.size) := h4d.below.size
 have HWm : Hid (V5.drew.heap.size ≤ w4.heap.size) := HN4.out.below.size
 clear h4d hA hbA nA
 go_region_held3 (fun w' => w'.cell? ⟨x.p, 1, none⟩ = some (.map (some x.u)) ∧ w'.cell? ⟨W.heap.size, 1, none⟩ = some (.string llc) ∧ (Instr.lookup 88 (.map (some x.u)) (.string llc) false).run Tryz.prog w' = .ok (.agg #[.int .i64 g1, .int .i64 g2, .int .i64 g3, .int .i64 g4]) w' ∧ w'.cell? ⟨w.heap.size, 0, none⟩ = some (.string ak) ∧ w'.cell? ⟨w.heap.size, 1, none⟩ = some (.string agc) ∧ w'.cell? ⟨w.heap.size, 2, none⟩ = some (.int .i64 agp) ∧ w'.cell? ⟨w.heap.size, 3, none⟩ = some (.string ali) ∧ w'.cell? ⟨w.heap.size, 4, none⟩ = some (.string alc) ∧ w'.cell? ⟨w.heap.size, 5, none⟩ = some (.int .i64 alu) ∧ w'.cell? ⟨w.heap.size, 6, none⟩ = some (.int .i64 alk) ∧ w'.cell? ⟨w.heap.size, 7, none⟩ = some (.string afz) ∧ w'.cell? ⟨w.heap.size, 8, none⟩ = some (.int .i64 afr) ∧ w'.cell? ⟨w.heap.size, 9, none⟩ = some (.int .i64 afb) ∧ w'.cell? ⟨w.heap.size, 10, none⟩ = some (.string atz) ∧ w'.cell? ⟨w.heap.size, 11, none⟩ = some (.int .i64 atr) ∧ w'.cell? ⟨w.heap.size, 12, none⟩ = some (.int .i64 atb) ∧ w'.cell? ⟨w.heap.size, 13, none⟩ = some (.int .i64 an)) (go_keep) (first | (go_at_call 71; refine HUA.out.mono ?_; rintro r w5 ⟨rfl, hb5⟩; have nA5 := (hb5.block _ (Array.getElem?_eq_some_iff.1 HnA.out).1).trans HnA.out; obtain ⟨T2, T3, T4, T5, f2, f3, f4, f5, ⟨j1, j2, j3, j4, j5⟩, ⟨j6, j7⟩, ⟨j8, j9⟩, ⟨j10, j11⟩, n6, fo⟩ := sets4 nA5 (.int .i64 s1) (.int .i64 s2) (.int .i64 s3) (.int .i64 s4); have h5 := HA.out.go hb5; have h55 := h5.turn fo HWn.out nA5; have fap := h5.book.cells.2.1; have fac := h5.code; (try simp only at fac); have fal := HLU.out _ h5.book; obtain ⟨fa0, fa1, fa2, fa3, fa4, fa5, fa6, fa7, fa8, fa9, fa10, fa11, fa12, fa13⟩ := h5.ent.at; (try simp only at fa0 fa1 fa2 fa3 fa4 fa5 fa6 fa7 fa8 fa9 fa10 fa11 fa12 fa13); have fbp := h55.book.cells.2.1; have fbc := h55.code; (try simp only at fbc); have fbl := HLU.out _ h55.book; obtain ⟨fb0, fb1, fb2, fb3, fb4, fb5, fb6, fb7, fb8, fb9, fb10, fb11, fb12, fb13⟩ := h55.ent.at; (try simp only at fb0 fb1 fb2 fb3 fb4 fb5 fb6 fb7 fb8 fb9 fb10 fb11 fb12 fb13); have HT5 : Hid (Tw _ T5 _ _ _ _ _ _ _ _) := h55; have HN5 : Hid (NewSt _ T5 _ _ _) := (HNA.out.later hb5).other fo HWm.out nA5; have H6 : Hid (T5.heap[w4.heap.size]? = _) := n6; clear fo n6 hb5 nA5 h5 h55) | (go_at_call 71; refine HUB.out.mono ?_; rintro r w5 ⟨rfl, hb5⟩; obtain ⟨T1, T2, T3, T4, T5, f1, f2, f3, f4, f5, ⟨j1, j2, j3, j4, j5⟩, ⟨j6, j7⟩, ⟨j8, j9⟩, ⟨j10, j11⟩, n6, jb1, jb5⟩ := boxed4 w5 (.int .i64 0) (.int .i64 0) (.int .i64 0) (.int .i64 0) (.int .i64 s1) (.int .i64 s2) (.int .i64 s3) (.int .i64 s4) 68; have h5 := H4d.out.go hb5; have h51 := h5.go jb1; have h55 := h5.go jb5; have fap := h5.book.cells.2.1; have fac := h5.code; (try simp only at fac); have fal := HLU.out _ h5.book; obtain ⟨fa0, fa1, fa2, fa3, fa4, fa5, fa6, fa7, fa8, fa9, fa10, fa11, fa12, fa13⟩ := h5.ent.at; (try simp only at fa0 fa1 fa2 fa3 fa4 fa5 fa6 fa7 fa8 fa9 fa10 fa11 fa12 fa13); have fbp := h51.book.cells.2.1; have fbc := h51.code; (try simp only at fbc); have fbl := HLU.out _ h51.book; obtain ⟨fb0, fb1, fb2, fb3, fb4, fb5, fb6, fb7, fb8, fb9, fb10, fb11, fb12, fb13⟩ := h51.ent.at; (try simp only at fb0 fb1 fb2 fb3 fb4 fb5 fb6 fb7 fb8 fb9 fb10 fb11 fb12 fb13); have fcp := h55.book.cells.2.1; have fcc := h55.code; (try simp only at fcc); have fcl := HLU.out _ h55.book; obtain ⟨fc0, fc1, fc2, fc3, fc4, fc5, fc6, fc7, fc8, fc9, fc10, fc11, fc12, fc13⟩ := h55.ent.at; (try simp only at fc0 fc1 fc2 fc3 fc4 fc5 fc6 fc7 fc8 fc9 fc10 fc11 fc12 fc13); have HT5 : Hid (Tw _ T5 _ _ _ _ _ _ _ _) := h55; have HN5 : Hid (NewSt _ T5 _ _ _) := (HNd.out.later hb5).later jb5; have H6 : Hid (T5.heap[w5.heap.size]? = _) := n6; clear jb1 jb5 n6 hb5 h5 h51 h55))
 all_goals
  obtain ⟨m0, m1, m2, m3⟩ := cells4 H6.out
  go_wp2_with (go_at_call 72; refine (HWl.out _).mono ?_; rintro r w6 ⟨rfl, hb6⟩; have n7 := (hb6.block _ (Array.getElem?_eq_some_iff.1 H6.out).1).trans H6.out; obtain ⟨o0, o1, o2, o3⟩ := cells4 (W := w6.drew) n7; have h6 := HT5.out.go hb6; have h6d := h6.drew; obtain ⟨_, i1, _, i3, i4, i5⟩ := h6d.book.cells; have i6 := h6d.code; (try simp only at i6); obtain ⟨V, st, z, y2, y3, st', z', y4, y5, l1, l2, l3, l4, l5, lo, lp, l6, l7⟩ := HL.out _ _ _ _ h6 _ (HN5.out.later hb6) HV.out; (try simp only at l1 l2 l3 l4 l5 l6 l7); have aw := h6.book.away n7 (by decide); have al := h6.book.away h6.lot (by decide); obtain ⟨s20, s21, s22, s23⟩ := lo _ aw.1 aw.2.1 aw.2.2; obtain ⟨s30, s31, s32, s33⟩ := lo _ al.1 al.2.1 al.2.2; obtain ⟨ca0, ca1, ca2, ca3⟩ := cells4 (s20.trans n7); obtain ⟨cb0, cb1, cb2, cb3⟩ := cells4 (s21.trans n7); obtain ⟨cc0, cc1, cc2, cc3⟩ := cells4 (s22.trans n7); obtain ⟨cd0, cd1, cd2, cd3⟩ := cells4 (s23.trans n7); obtain ⟨_, ka1, _, _⟩ := cells4 (s30.trans h6.lot); obtain ⟨_, kb1, _, _⟩ := cells4 (s31.trans h6.lot); obtain ⟨_, kc1, _, _⟩ := cells4 (s32.trans h6.lot); (try simp only at ka1 kb1 kc1); obtain ⟨pa1, pa3⟩ := lp V (Or.inl rfl); obtain ⟨pb1, pb3⟩ := lp y2 (Or.inr (Or.inl rfl)); obtain ⟨pc1, pc3⟩ := lp y3 (Or.inr (Or.inr (Or.inl rfl))); have HF : Hid (IsBk _ _ _ _ ∧ Off _ _ _) := ⟨l6, l7⟩; clear hb6 h6 h6d l6 l7 n7 lo lp aw al s20 s21 s22 s23 s30 s31 s32 s33)
  go_region
  go_wp2
  go_ret
  exact ⟨rfl, HF.out⟩
theorem turn_any (w : World) (s : Nat → Addr) (B : Nat) (x : Bl) (b : Bk) (e : En) (h : IsBk w B x b) (hz : SzE e) (hs : Bs w s) (he : entErr e = 0) (h1 : e.1 ≠ kGoods) (h2 : e.1 ≠ kLot) :
  Calls Tryz.prog 37 #[.pointer (some ⟨x.p, 0, none⟩), agE e] w fun r w' => r = .returned (errP s (doB b e).2) ∧ IsBk w' B x (doB b e).1 ∧ Off x.all w w' := by
 rcases findI_cases nameL b.2.1 e.2.2.1.1 with ⟨h9, hno⟩ | ⟨k, l, hkL, hl, hid⟩
 ·rw [doB_none he h1 h2 (by omega)]
  exact turn_none w s B x b e h hz hs hno
 ·obtain ⟨g0, hg0, hg1⟩ := h.ok.wf.lots l (List.mem_of_getElem? hl)
  rcases findI_cases nameG b.1 l.1.2.1 with ⟨_, h8⟩ | ⟨i, g, hiG, hg, hgn⟩
  ·exact absurd hg1 (h8 g0 hg0)
  rw [doB_at he h1 h2 hkL hl hiG hg]
  by_cases hc : stkE e b.2.2 = 0
  ·by_cases hh : heldN e.1 l.2 e.2.2.2.2.2 < 0
   ·have ep : pieceE b e l g = 9 := by unfold pieceE; rw [if_pos hc, if_pos (Or.inl hh)]
    rw [ep, if_neg (by decide)]
    exact turn_neg w s B x b e h hz hs k i l g hl hid hg hgn he h1 h2 hc hh
   by_cases ho : ofL (stkL e b.2.2) e.2.2.1.1 < heldN e.1 l.2 e.2.2.2.2.2
   ·have ep : pieceE b e l g = 9 := by unfold pieceE; rw [if_pos hc, if_pos (Or.inr ho)]
    rw [ep, if_neg (by decide)]
    exact turn_short w s B x b e h hz hs k i l g hl hid hg hgn he h1 h2 hc (by omega) ho
   cases hu : okSu (addSu e.1 g.2 e.2.2.2.2.2) with
   | false =>
    have ep : pieceE b e l g = 2 := by unfold pieceE; rw [if_pos hc, if_neg (by omega), hu]; rfl
    rw [ep, if_neg (by decide)]
    exact turn_bound w s B x b e h hz hs k i l g hl hid hg hgn he h1 h2 hc (by omega) (by omega) hu
   | true =>
    have ep : pieceE b e l g = 0 := by unfold pieceE; rw [if_pos hc, if_neg (by omega), hu]; rfl
    rw [if_pos ep]
    exact turn_ok w s B x b e h hz hs k i l g hl hid hg hgn he h1 h2 hc (by omega) (by omega) hu
  ·have ep : pieceE b e l g = stkE e b.2.2 := by unfold pieceE; rw [if_neg hc]
   rw [ep, if_neg hc]
   exact turn_stk w s B x b e h hz hs k i l g hl hid hg hgn he h1 h2 hc
theorem bdo_err (w : World) (s : Nat → Addr) (B : Nat) (x : Bl) (b : Bk) (e : En) (h : IsBk w B x b) (hz : SzE e) (hs : Bs w s) (he : entErr e ≠ 0) :
  Calls Tryz.prog 11 #[.pointer (some ⟨x.p, 0, none⟩), agE e] w fun r w' => r = .returned (errP s (entErr e)) ∧ IsBk w' B x b ∧ Off x.all w w' := by
 have hE := BlkE.new w e
 have hb1 : Below w.heap.size w (w.alloc (celE e)) := (Below.refl _ w).alloc (Nat.le_refl _) _
 have hC := echeck_any e (w.alloc (celE e)) s hz (hs.below hb1).es
 rw [errP_pos s he] at hC ⊢
 generalize s (entErr e - 1) = ad at *
 obtain ⟨ps, bs, h⟩ := h
 obtain ⟨_, _, _, _, p4, _⟩ := (h.all hb1).cells
 obtain ⟨t0, t1, t2, t3, t4, t5, t6, t7, t8, t9, t10, t11, t12, t13⟩ := hE.at
 have HF : Hid (∀ W, Below w.heap.size w W → IsBk W B x b ∧ Off x.all w W) := fun W hb => ⟨⟨ps, bs, h.all hb⟩, Off.of_below hb⟩
 have HB : Hid (Below _ _ _) := hb1
 have HC : Hid (Calls Tryz.prog 34 _ _ _) := hC
 clear h hz hs he hE hb1 hC
 obtain ⟨ak, ⟨agc, agp⟩, ⟨ali, alc, alu, alk⟩, ⟨afz, afr, afb⟩, ⟨atz, atr, atb⟩, an⟩ := e
 unfold agE celE at *
 simp only at *
 go_enter Tryz.func11, Tryz.ntmps11
 go_wp2_with (go_at_call 34; refine HC.out.mono ?_; rintro r w1 ⟨rfl, hb2⟩)
 go_ret
 exact ⟨rfl, HF.out _ (HB.out.trans (hb2.mono HB.out.size))⟩
theorem bdo_goods (w : World) (s : Nat → Addr) (B : Nat) (x : Bl) (b : Bk) (e : En) (h : IsBk w B x b) (hz : SzE e) (hs : Bs w s) (he : entErr e = 0) (hk : e.1 = kGoods) :
  Calls Tryz.prog 11 #[.pointer (some ⟨x.p, 0, none⟩), agE e] w fun r w' => r = .returned (errP s (doB b e).2) ∧ IsBk w' B x (doB b e).1 ∧ Off x.all w w' := by
 have hE := BlkE.new w e
 have hb1 : Below w.heap.size w (w.alloc (celE e)) := (Below.refl _ w).alloc (Nat.le_refl _) _
 have hC := echeck_any e (w.alloc (celE e)) s hz (hs.below hb1).es
 rw [he, errP_zero] at hC
 have HD : Hid (∀ W, Below w.heap.size w W → Calls Tryz.prog 35 #[.pointer (some ⟨x.p, 0, none⟩), agG e.2.1] W fun r w' => r = .returned (errP s (doB b e).2) ∧ IsBk w' B x (doB b e).1 ∧ Off x.all w w') := fun W hb => by
  have := addGoods_any e.2.1 W s B x b (h.below hb) hz.gc (hs.below hb)
  refine this.mono fun r w' ⟨r1, r2, r3⟩ => ?_
  rw [doB_goods he hk]
  by_cases h0 : goodsE b e.2.1 = 0
  ·rw [if_pos h0] at r2 ⊢
   rw [h0] at r1
   exact ⟨r1, r2, (Off.of_below hb).trans r3⟩
  ·rw [if_neg h0] at r2 ⊢
   exact ⟨r1, r2, (Off.of_below hb).trans r3⟩
 obtain ⟨ps, bs, h⟩ := h
 obtain ⟨_, _, _, _, p4, _⟩ := (h.all hb1).cells
 have x1 : (e.1.toList == kGoods.data.toList) = true := same_wordR hk
 obtain ⟨t0, t1, t2, t3, t4, t5, t6, t7, t8, t9, t10, t11, t12, t13⟩ := hE.at
 have HE : Hid (BlkE _ _ _) := hE
 have HB : Hid (Below _ _ _) := hb1
 have HC : Hid (Calls Tryz.prog 34 _ _ _) := hC
 generalize doB b e = D at *
 clear h hz hs he hE hb1 hC hk
 obtain ⟨ak, ⟨agc, agp⟩, ⟨ali, alc, alu, alk⟩, ⟨afz, afr, afb⟩, ⟨atz, atr, atb⟩, an⟩ := e
 unfold agE celE agG at *
 simp only at *
 go_enter Tryz.func11, Tryz.ntmps11
 go_wp2_with (first
  | (go_at_call 34; refine HC.out.mono ?_; rintro r w1 ⟨rfl, hb2⟩; obtain ⟨u0, u1, u2, u3, u4, u5, u6, u7, u8, u9, u10, u11, u12, u13⟩ := (HE.out.below hb2).at; (try simp only at u0 u1 u2 u3 u4 u5 u6 u7 u8 u9 u10 u11 u12 u13); have hb3 : Hid (Below _ _ _) := HB.out.trans (hb2.mono HB.out.size); clear hb2)
  | (go_at_call 35; refine (HD.out _ hb3.out).mono ?_; rintro r w2 ⟨rfl, hr⟩))
 go_ret
 exact ⟨rfl, hr⟩
theorem bdo_lot (w : World) (s : Nat → Addr) (B : Nat) (x : Bl) (b : Bk) (e : En) (h : IsBk w B x b) (hz : SzE e) (hs : Bs w s) (he : entErr e = 0) (hk : e.1 = kLot) :
  Calls Tryz.prog 11 #[.pointer (some ⟨x.p, 0, none⟩), agE e] w fun r w' => r = .returned (errP s (doB b e).2) ∧ IsBk w' B x (doB b e).1 ∧ Off x.all w w' := by
 have hE := BlkE.new w e
 have hb1 : Below w.heap.size w (w.alloc (celE e)) := (Below.refl _ w).alloc (Nat.le_refl _) _
 have hC := echeck_any e (w.alloc (celE e)) s hz (hs.below hb1).es
 rw [he, errP_zero] at hC
 have HD : Hid (∀ W, Below w.heap.size w W → Calls Tryz.prog 36 #[.pointer (some ⟨x.p, 0, none⟩), agQ e.2.2.1] W fun r w' => r = .returned (errP s (doB b e).2) ∧ IsBk w' B x (doB b e).1 ∧ Off x.all w w') := fun W hb => by
  have := addLot_any e.2.2.1 W s B x b (h.below hb) hz.li hz.lc (hs.below hb)
  refine this.mono fun r w' ⟨r1, r2, r3⟩ => ?_
  rw [doB_lot he hk]
  by_cases h0 : lotBE b e.2.2.1 = 0
  ·rw [if_pos h0] at r2 ⊢
   rw [h0] at r1
   exact ⟨r1, r2, (Off.of_below hb).trans r3⟩
  ·rw [if_neg h0] at r2 ⊢
   exact ⟨r1, r2, (Off.of_below hb).trans r3⟩
 obtain ⟨ps, bs, h⟩ := h
 obtain ⟨_, _, _, _, p4, _⟩ := (h.all hb1).cells
 have x0 : (e.1.toList == kGoods.data.toList) = false := other_word (by rw [hk]; decide)
 have x1 : (e.1.toList == kLot.data.toList) = true := same_wordR hk
 obtain ⟨t0, t1, t2, t3, t4, t5, t6, t7, t8, t9, t10, t11, t12, t13⟩ := hE.at
 have HE : Hid (BlkE _ _ _) := hE
 have HB : Hid (Below _ _ _) := hb1
 have HC : Hid (Calls Tryz.prog 34 _ _ _) := hC
 generalize doB b e = D at *
 clear h hz hs he hE hb1 hC hk
 obtain ⟨ak, ⟨agc, agp⟩, ⟨ali, alc, alu, alk⟩, ⟨afz, afr, afb⟩, ⟨atz, atr, atb⟩, an⟩ := e
 unfold agE celE agQ at *
 simp only at *
 go_enter Tryz.func11, Tryz.ntmps11
 go_wp2_with (first
  | (go_at_call 34; refine HC.out.mono ?_; rintro r w1 ⟨rfl, hb2⟩; obtain ⟨u0, u1, u2, u3, u4, u5, u6, u7, u8, u9, u10, u11, u12, u13⟩ := (HE.out.below hb2).at; (try simp only at u0 u1 u2 u3 u4 u5 u6 u7 u8 u9 u10 u11 u12 u13); have hb3 : Hid (Below _ _ _) := HB.out.trans (hb2.mono HB.out.size); clear hb2)
  | (go_at_call 36; refine (HD.out _ hb3.out).mono ?_; rintro r w2 ⟨rfl, hr⟩))
 go_ret
 exact ⟨rfl, hr⟩
theorem bdo_turn (w : World) (s : Nat → Addr) (B : Nat) (x : Bl) (b : Bk) (e : En) (h : IsBk w B x b) (hz : SzE e) (hs : Bs w s) (he : entErr e = 0) (h1 : e.1 ≠ kGoods) (h2 : e.1 ≠ kLot) :
  Calls Tryz.prog 11 #[.pointer (some ⟨x.p, 0, none⟩), agE e] w fun r w' => r = .returned (errP s (doB b e).2) ∧ IsBk w' B x (doB b e).1 ∧ Off x.all w w' := by
 have hE := BlkE.new w e
 have hb1 : Below w.heap.size w (w.alloc (celE e)) := (Below.refl _ w).alloc (Nat.le_refl _) _
 have hC := echeck_any e (w.alloc (celE e)) s hz (hs.below hb1).es
 rw [he, errP_zero] at hC
 have HD : Hid (∀ W, Below w.heap.size w W → Calls Tryz.prog 37 #[.pointer (some ⟨x.p, 0, none⟩), agE e] W fun r w' => r = .returned (errP s (doB b e).2) ∧ IsBk w' B x (doB b e).1 ∧ Off x.all w w') := fun W hb =>
  (turn_any W s B x b e (h.below hb) hz (hs.below hb) he h1 h2).mono fun r w' ⟨r1, r2, r3⟩ => ⟨r1, r2, (Off.of_below hb).trans r3⟩
 obtain ⟨ps, bs, h⟩ := h
 obtain ⟨_, _, _, _, p4, _⟩ := (h.all hb1).cells
 have x0 : (e.1.toList == kGoods.data.toList) = false := other_word h1
 have x1 : (e.1.toList == kLot.data.toList) = false := other_word h2
 obtain ⟨t0, t1, t2, t3, t4, t5, t6, t7, t8, t9, t10, t11, t12, t13⟩ := hE.at
 have HE : Hid (BlkE _ _ _) := hE
 have HB : Hid (Below _ _ _) := hb1
 have HC : Hid (Calls Tryz.prog 34 _ _ _) := hC
 generalize doB b e = D at *
 clear h hz hs he hE hb1 hC h1 h2
 obtain ⟨ak, ⟨agc, agp⟩, ⟨ali, alc, alu, alk⟩, ⟨afz, afr, afb⟩, ⟨atz, atr, atb⟩, an⟩ := e
 unfold agE celE at *
 simp only at *
 go_enter Tryz.func11, Tryz.ntmps11
 go_wp2_with (first
  | (go_at_call 34; refine HC.out.mono ?_; rintro r w1 ⟨rfl, hb2⟩; obtain ⟨u0, u1, u2, u3, u4, u5, u6, u7, u8, u9, u10, u11, u12, u13⟩ := (HE.out.below hb2).at; (try simp only at u0 u1 u2 u3 u4 u5 u6 u7 u8 u9 u10 u11 u12 u13); have hb3 : Hid (Below _ _ _) := HB.out.trans (hb2.mono HB.out.size); clear hb2)
  | (go_at_call 37; refine (HD.out _ hb3.out).mono ?_; rintro r w2 ⟨rfl, hr⟩))
 go_ret
 exact ⟨rfl, hr⟩
theorem bdo_any (w : World) (s : Nat → Addr) (B : Nat) (x : Bl) (b : Bk) (e : En) (h : IsBk w B x b) (hz : SzE e) (hs : Bs w s) :
  Calls Tryz.prog 11 #[.pointer (some ⟨x.p, 0, none⟩), agE e] w fun r w' => r = .returned (errP s (doB b e).2) ∧ IsBk w' B x (doB b e).1 ∧ Off x.all w w' := by
 by_cases he : entErr e = 0
 ·by_cases h1 : e.1 = kGoods
  ·exact bdo_goods w s B x b e h hz hs he h1
  by_cases h2 : e.1 = kLot
  ·exact bdo_lot w s B x b e h hz hs he h2
  exact bdo_turn w s B x b e h hz hs he h1 h2
 ·rw [doB_err he]
  exact bdo_err w s B x b e h hz hs he
end Go.Proofs.YtppodkkefegbkaaGreatDoor
namespace Go.Proofs.YtppodkkefegbkaaGreatDoor
open Go.RowKit Go.Lib Go.Sort
section
variable {w W : World} {B : Nat} {x : Bl} {ps bs : Nat} {b : Bk}
theorem BkAt.sumsAt (h : BkAt W B x ps bs b) {c : ByteArray} (hc : c.size ≤ maxLen) : (Instr.lookup 88 (.map (some x.u)) (.string c) false).run Tryz.prog W = .ok (.agg #[.int .i64 (sumsB b c).1, .int .i64 (sumsB b c).2.1, .int .i64 (sumsB b c).2.2.1, .int .i64 (sumsB b c).2.2.2]) W := by
 unfold sumsB
 rcases findN_cases nameG b.1 c with ⟨h1, h2⟩ | ⟨y, h1, h2, h3⟩
 ·rw [h1]
  exact h.U.look_miss Tryz.keyedS Tryz.underlying88 (keyS hc) (Tryz.zeroValue68 W) fun v hv => by
   obtain ⟨g, hg, e, _⟩ := mem_entU hv
   exact h2 g hg e
 ·rw [h1]; exact h.lookU hc h2 h3
end
theorem bsums_any (c : ByteArray) (w : World) (B : Nat) (x : Bl) (b : Bk) (h : IsBk w B x b) (hc : c.size ≤ maxLen) :
  Calls Tryz.prog 26 #[.pointer (some ⟨x.p, 0, none⟩), .string c] w fun e w' => e = .returned (agU (sumsB b c)) ∧ Below w.heap.size w w' := by
 obtain ⟨V1, V2, V3, V4, V5, e1, e2, e3, e4, e5, ⟨k1, k2, k3, k4, k5⟩, ⟨k6, k7⟩, ⟨k8, k9⟩, ⟨k10, k11⟩, n5, kb1, kb5⟩ := boxed4 w (.int .i64 0) (.int .i64 0) (.int .i64 0) (.int .i64 0) (.int .i64 (sumsB b c).1) (.int .i64 (sumsB b c).2.1) (.int .i64 (sumsB b c).2.2.1) (.int .i64 (sumsB b c).2.2.2) 68
 have hW := whole_any V1 B x b (h.below kb1)
 obtain ⟨ps, bs, h⟩ := h
 obtain ⟨_, p1, _, _, _, _⟩ := (h.all kb1).cells
 have hl := (h.all kb1).sumsAt hc
 have HW : Hid (Calls Tryz.prog 38 _ _ _) := hW
 have HB : Hid (Below _ _ _) := kb5
 have m0 : V5.cell? ⟨w.heap.size, 0, none⟩ = some (.int .i64 (sumsB b c).1) := by rw [cell_of_heap n5]; rfl
 have m1 : V5.cell? ⟨w.heap.size, 1, none⟩ = some (.int .i64 (sumsB b c).2.1) := by rw [cell_of_heap n5]; rfl
 have m2 : V5.cell? ⟨w.heap.size, 2, none⟩ = some (.int .i64 (sumsB b c).2.2.1) := by rw [cell_of_heap n5]; rfl
 have m3 : V5.cell? ⟨w.heap.size, 3, none⟩ = some (.int .i64 (sumsB b c).2.2.2) := by rw [cell_of_heap n5]; rfl
 unfold agU
 generalize sumsB b c = u at *
 obtain ⟨u0, u1, u2, u3⟩ := u
 simp only at *
 clear h hW kb1 kb5 n5
 go_enter Tryz.func26, Tryz.ntmps26
 go_wp2_with (first
  | (go_at_call 38; refine HW.out.mono ?_; rintro e w1 ⟨rfl, hw⟩; have hw' := hw.symm; subst hw')
  | (at_lookup; refine wpL_look rfl _ _ 88 rfl x.u _ _ rfl rfl hl ?_))
 exact bodyPost_ret (v := .agg #[.int .i64 u0, .int .i64 u1, .int .i64 u2, .int .i64 u3]) (by simp [results, Tryz.results26, go_sem, m0, m1, m2, m3]) rfl ⟨rfl, HB.out⟩
end Go.Proofs.YtppodkkefegbkaaGreatDoor
namespace Go.Proofs.YtppodkkefegbkaaGreatDoor
open Go.RowKit Go.Shelf Go.Lib Go.Sort
def cmpG (x y : Gs) : Int := cmpZ (nameG x) (nameG y)
def aheadG (x y : Gs) : Bool := decide (cmpG x y < 0)
theorem aheadG_lt (x y : Gs) : aheadG x y = zLt (nameG x) (nameG y) := by
 unfold aheadG cmpG
 rcases cmpZ_cases (nameG x) (nameG y) with ⟨h1, h2, h3, h4⟩ | ⟨h1, h2, h3, h4⟩ | ⟨h1, h2, h3, h4⟩
 ·rw [h4, h1]; rfl
 ·rw [h4, h1]; rfl
 ·rw [h4, h1]; rfl
theorem zLt_other {a b : ByteArray} (h : zLt a b = false) (hne : a ≠ b) : zLt b a = true := by
 rcases cmpZ_cases a b with ⟨h1, h2, h3, h4⟩ | ⟨h1, h2, h3, h4⟩ | ⟨h1, h2, h3, h4⟩
 ·rw [h1] at h; cases h
 ·exact h2
 ·exact absurd h3 hne
theorem swoG : SWO aheadG where
 irrefl x := by rw [aheadG_lt]; exact zLt_irrefl _
 trans x y z h1 h2 := by rw [aheadG_lt] at *; exact zLt_trans h1 h2
 ntrans x y z h1 h2 := by
  rw [aheadG_lt] at *
  by_cases e : nameG x = nameG y
  ·rw [e]; exact h2
  ·have h3 := zLt_other h1 e
   cases h : zLt (nameG x) (nameG z) with
   | false => rfl
   | true => rw [zLt_trans h3 h] at h2; cases h2
theorem gcompare_any (x y : Gs) (w : World) : Calls Tryz.prog 57 #[.agg #[.string x.1.1, .int .i64 x.1.2], .agg #[.string y.1.1, .int .i64 y.1.2]] w fun e w' => e = .returned (.int .i64 (cmpG x y)) ∧ ∃ q os, w' = grow (w.drewN q) os := by
 have h1 : ∀ w, Calls Tryz.prog 58 #[.string x.1.1, .string y.1.1] w fun e w' => e = .returned (.int .i64 (cmpG x y)) ∧ w' = w := fun w => cmpS_any x.1.1 y.1.1 w
 generalize cmpG x y = c1 at *
 obtain ⟨⟨a, p⟩, s⟩ := x
 obtain ⟨⟨a', p'⟩, s'⟩ := y
 simp only at *
 go_enter Tryz.func57, Tryz.ntmps57
 go_wp2_with (go_at_call 58; refine (h1 _).mono ?_; rintro e w1 ⟨rfl, hw⟩; have hw' := hw.symm; subst hw')
 go_ret
 exact ⟨rfl, ((Grew.refl w).alloc _).alloc _⟩
theorem encGd_len (x : Gs) : (encGd.enc x).length = 2 := rfl
theorem cmpLaysG (blk off size : Nat) (w : World) : CmpLays Tryz.prog 57 #[] encGd.enc 2 cmpG blk off size w := fun _ _ _ _ x y => gcompare_any x y _
theorem gs_perm_eq : ∀ {m m' : List Gs}, m.Pairwise (fun a b => zLt (nameG a) (nameG b) = true) → m'.Pairwise (fun a b => zLt (nameG a) (nameG b) = true) → m.Perm m' → m = m'
 | [], m', _, _, hp => (List.nil_perm.1 hp).symm
 | a :: m, [], _, _, hp => by have := hp.length_eq; simp at this
 | a :: m, b :: m', h, h', hp => by
  obtain ⟨h1, h2⟩ := List.pairwise_cons.1 h
  obtain ⟨h3, h4⟩ := List.pairwise_cons.1 h'
  have e : a = b := by
   rcases List.mem_cons.1 (hp.mem_iff.1 (List.mem_cons_self ..)) with e | e
   ·exact e
   ·rcases List.mem_cons.1 (hp.mem_iff.2 (List.mem_cons_self ..)) with e' | e'
    ·exact e'.symm
    ·have k1 := h3 a e
     have k2 := h1 b e'
     have := zLt_trans k1 k2
     rw [zLt_irrefl] at this
     cases this
  subst e
  rw [gs_perm_eq h2 h4 (List.Perm.cons_inv hp)]
theorem sortedG_is {m d : List Gs} {d' : Array Gs} (hw : m.Pairwise (fun a b => zLt (nameG a) (nameG b) = true)) (hp : d.Perm m) (hq : PermIn 0 d.length d.toArray d') (hs : SortedIn aheadG 0 d.length d') : d'.toList = m := by
 obtain ⟨h1, _, h3⟩ := hq
 have hsz : d'.size = d.length := by simpa using h1
 have e1 : (d'.extract 0 d.length).toList = d'.toList := by
  rw [Array.toList_extract, ← hsz]; simp [List.take_of_length_le]
 have e2 : (d.toArray.extract 0 d.length).toList = d := by simp
 rw [e1, e2] at h3
 have hpm : d'.toList.Perm m := h3.trans hp
 refine gs_perm_eq ?_ hw hpm
 have hk : (d'.toList.map nameG).Nodup := by
  refine (hpm.map nameG).nodup_iff.2 ?_
  unfold List.Nodup
  rw [List.pairwise_map]
  exact hw.imp fun h e => by rw [e, zLt_irrefl] at h; cases h
 rw [List.pairwise_iff_getElem]
 intro i j hi hj hij
 have hj' : j < d'.size := by simpa using hj
 have hi' : i < d'.size := by simpa using hi
 have := hs i j (Nat.zero_le _) hij (by omega)
 rw [getElem!_pos d' j hj', getElem!_pos d' i hi', aheadG_lt] at this
 simp only [Array.getElem_toList]
 refine zLt_other this ?_
 intro e
 unfold List.Nodup at hk
 rw [List.pairwise_map, List.pairwise_iff_getElem] at hk
 exact hk i j hi hj hij (by simpa using e.symm)
def RowG (w : World) (g : Nat) (m : List Gs) : Prop := ∀ i x, m[i]? = some x → w.cell? ⟨g, i * 2, none⟩ = some (.string x.1.1) ∧ w.cell? ⟨g, i * 2 + 1, none⟩ = some (.int .i64 x.1.2)
theorem RowG.below {w w' : World} {g : Nat} {m : List Gs} (h : RowG w g m) (hb : Below w.heap.size w w') : RowG w' g m := fun i x hi => by
 obtain ⟨h1, h2⟩ := h i x hi
 exact ⟨(hb.cell (p := ⟨g, i * 2, none⟩) (cell_lt h1)).trans h1, (hb.cell (p := ⟨g, i * 2 + 1, none⟩) (cell_lt h2)).trans h2⟩
theorem rowG_holds {w : World} {g : Nat} {d : Array Gs} {m : List Gs} (hd : d.toList = m) (h : HoldsK encGd.enc 2 w g 0 d) : RowG w g m := by
 subst hd
 intro i x hi
 have hlt : i < d.size := by have := (List.getElem?_eq_some_iff.1 hi).1; simpa using this
 have hx : d[i]! = x := by
  rw [getElem!_pos d i hlt]
  obtain ⟨_, e⟩ := List.getElem?_eq_some_iff.1 hi
  simpa using e
 have key : ∀ c, c < 2 → w.cell? ⟨g, i * 2 + c, none⟩ = some ((encGd.enc x)[c]!) := by
  intro c hc
  have := (h (i * 2 + c) (by rw [size_flatK]; omega)).1
  rw [Nat.zero_add, get_flatK encGd.enc 2 d _ (by omega), show (i * 2 + c) / 2 = i by omega, show (i * 2 + c) % 2 = c by omega, hx] at this
  exact this
 exact ⟨key 0 (by decide), key 1 (by decide)⟩
theorem flatG_array (m : List Gs) : (flatK encGd.enc 2 m.toArray).toList = encGd.flat m := by
 apply List.ext_getElem?
 intro j
 by_cases hj : j < m.length * 2
 ·have hi : j / 2 < m.length := by omega
  have h1 : m[j / 2]? = some m[j / 2] := List.getElem?_eq_getElem hi
  have h2 := encGd.flat_get (j % 2) h1 (show j % 2 < 2 by omega)
  rw [show j / 2 * encGd.k + j % 2 = j by show j / 2 * 2 + j % 2 = j; omega] at h2
  rw [h2, Array.getElem?_toList, Array.getElem?_eq_getElem (by rw [size_flatK]; simpa using hj)]
  have h3 := get_flatK encGd.enc 2 m.toArray j (by simpa using hj)
  rw [getElem!_pos _ j (by rw [size_flatK]; simpa using hj)] at h3
  rw [h3, getElem!_pos m.toArray (j / 2) (by simpa using hi), List.getElem_toArray, getElem!_pos _ (j % 2) (by rw [encGd_len]; omega), List.getElem?_eq_getElem (by rw [encGd_len]; omega)]
 ·rw [List.getElem?_eq_none (l := encGd.flat m) (by rw [encGd.flat_len]; show m.length * 2 ≤ j; omega), List.getElem?_eq_none (by rw [Array.length_toList, size_flatK]; simpa using hj)]
theorem own_holdsG {w : World} {base g cap : Nat} {m : List Gs} (h : w.ownsRow base 37 2 (.slice (some ⟨g, 0, none⟩) m.length cap) m.length (encGd.flat m)) : HoldsK encGd.enc 2 w g 0 m.toArray := by
 intro j hj
 have hj' : j < m.length * 2 := by rw [size_flatK] at hj; simpa using hj
 refine ⟨?_, ?_⟩
 ·rw [Nat.zero_add]
  have := h.cells (g := g) rfl j ((flatK encGd.enc 2 m.toArray)[j]!) (by rw [← flatG_array, Array.getElem?_toList, Array.getElem?_eq_getElem hj, getElem!_pos _ j hj])
  rw [Go.WideShapes.add_plain] at this
  simpa using this
 ·rw [Nat.zero_add]; exact h.frozenAt j
theorem values_any (b : Nat) (w : World) : Calls Tryz.prog 56 #[.map (some b)] w fun e w' => e = .returned (.func (.func 86) #[] #[.pointer (some ⟨w.heap.size, 0, none⟩)]) ∧ w' = w.alloc (.cells #[.map (some b)] 87) := by
 go_enter Tryz.func56, Tryz.ntmps56
 go_wp2
 go_ret
 exact ⟨rfl, rfl⟩
theorem collectG (Bm b : Nat) (m : List Gs) (w : World) (h30 : m.length ≤ 1000) (hB : Bm < w.heap.size) (hc : w.cell? ⟨Bm, 0, none⟩ = some (.map (some b))) (hmap : MapL Tryz.prog 9 w b (m.map entG)) :
  Calls Tryz.prog 84 #[.func (.func 86) #[] #[.pointer (some ⟨Bm, 0, none⟩)]] w fun e w' => ∃ v xs, e = .returned v ∧ xs.Perm m ∧ w'.ownsRow w.heap.size 37 2 v xs.length (encGd.flat xs) ∧ (v = .slice none 0 0 ↔ xs = []) ∧ Below w.heap.size w w' := by
 have HA : Hid (Calls Tryz.prog 111 _ _ _) := appendSeqG Bm b m w h30 hB hc hmap
 clear hmap hc hB
 go_enter Tryz.func84, Tryz.ntmps84
 go_wp2_with (go_at_call 111; refine HA.out.mono ?_; rintro e w1 ⟨v, xs, rfl, h1, h2, h3, h4⟩)
 go_ret
 exact ⟨v, xs, rfl, h1, h2, h3, h4⟩
def GoodsAt (w : World) (B : Nat) (v : Value) (m : List Gs) : Prop := (v = .slice none 0 0 ∧ m = []) ∨ ∃ g cap, v = .slice (some ⟨g, 0, none⟩) m.length cap ∧ B ≤ g ∧ g < w.heap.size ∧ RowG w g m
theorem below_sortG {B : Nat} (w : World) (blk off n : Nat) (d : Array Gs) (os : Array Obj) (hB : B ≤ w.heap.size) (hb : B ≤ blk) : Below B w (sortWorldK encGd.enc 2 w blk off n d os) := by
 refine ⟨rfl, rfl, rfl, ?_, fun k hk => ?_⟩
 ·unfold sortWorldK; rw [size_grow, size_putRowK]; simp
 ·unfold sortWorldK
  rw [heap_grow_old _ _ (by rw [size_putRowK]; simp; omega)]
  show (w.heap.modify blk _)[k]? = _
  rw [Array.getElem?_modify, if_neg (by omega)]
theorem sortedFuncG (Bm b : Nat) (m : List Gs) (w : World) (h30 : m.length ≤ 30) (hs : m.Pairwise (fun a b => zLt (nameG a) (nameG b) = true)) (hB : Bm < w.heap.size) (hc : w.cell? ⟨Bm, 0, none⟩ = some (.map (some b))) (hmap : MapL Tryz.prog 9 w b (m.map entG)) :
  Calls Tryz.prog 55 #[.func (.func 86) #[] #[.pointer (some ⟨Bm, 0, none⟩)], .func (.func 57) #[] #[]] w fun e w' => ∃ v, e = .returned v ∧ GoodsAt w' w.heap.size v m ∧ Below w.heap.size w w' := by
 have HC : Hid (Calls Tryz.prog 84 _ _ _) := collectG Bm b m w (by omega) hB hc hmap
 have eg : ∀ args w, (callFunc 57 args).run Tryz.prog w = .ok (.enter 57 args) w := enters_of Tryz.func57 (by kernel_rfl) rfl
 have HN : Hid (∀ w1, Calls Tryz.prog 85 #[.slice none 0 0, .func (.func 57) #[] #[]] w1 _) := fun w1 => AnyF.slices_SortFunc_none Tryz.laysSortG none 0 (.func (.func 57) #[] #[]) w1
 have hso := fun g cap (d : List Gs) w1 (hd : d.length ≤ 30) (hH : HoldsK encGd.enc 2 w1 g 0 d.toArray) (hg : g < w1.heap.size) => AnyQ.slices_SortFunc Tryz.laysSortG 2 Tryz.isAgg37 Tryz.sizeOf37 encGd.enc encGd_len encGd.one cmpG swoG 57 #[] g 0 cap d.toArray w1 eg (cmpLaysG g 0 d.toArray.size w1) hH hg (by simp only [List.size_toArray]; omega)
 change ∀ g cap (d : List Gs) w1, _ → _ → _ → Calls Tryz.prog 85 _ _ _ at hso
 simp only [List.size_toArray] at hso
 have HO : Hid (∀ g cap (d : List Gs) w1, _ → _ → _ → Calls Tryz.prog 85 _ _ _) := hso
 have HS : Hid (m.Pairwise (fun a b => zLt (nameG a) (nameG b) = true)) := hs
 have H30 : Hid (m.length ≤ 30) := h30
 clear eg hso hmap hc hB hs h30
 go_enter Tryz.func55, Tryz.ntmps55
 go_wp2_with (first
  | (go_at_call 84; refine HC.out.mono ?_; rintro e w1 ⟨v, xs, rfl, h1, h2, h3, h4⟩))
 rcases h2.2 with ⟨hv, h0⟩ | ⟨g, cap, cur, hv, hgB, hgb, _⟩
 ·subst hv
  have hx := h3.1 rfl
  subst hx
  have hm : m = [] := List.nil_perm.1 h1
  have HM : Hid (m = []) := hm
  clear h1 h2 h3 h0 hm
  go_wp2_with (go_at_call 85; refine (HN.out _).mono ?_; rintro e w2 ⟨rfl, hw⟩; have hw' := hw.symm; subst hw')
  go_ret
  exact ⟨_, rfl, Or.inl ⟨rfl, HM.out⟩, h4⟩
 ·subst hv
  have hH := own_holdsG h2
  have hlt : g < w1.heap.size := (Array.getElem?_eq_some_iff.1 hgb).1
  have hl : xs.length ≤ 30 := by have := h1.length_eq; have := H30.out; omega
  have hln : xs.length = m.length := h1.length_eq
  have HCc : Hid (Calls Tryz.prog 85 _ _ _) := HO.out g cap xs w1 hl hH hlt
  have HH : Hid (HoldsK encGd.enc 2 w1 g 0 xs.toArray) := hH
  have HP : Hid (xs.Perm m) := h1
  have HG : Hid (w.heap.size ≤ g ∧ g < w1.heap.size ∧ xs.length = m.length) := ⟨hgB, hlt, hln⟩
  clear h1 h2 h3 hH hgB hgb hlt hl hln
  go_wp2_with (go_at_call 85; refine HCc.out.mono ?_; rintro e w2 ⟨rfl, d', q, os, hq, hs, rfl⟩)
  go_ret
  obtain ⟨k1, k2, k3⟩ := HG.out
  have hb9 := below_sortG (B := w.heap.size) w1 g 0 q d' os h4.size k1
  refine ⟨_, rfl, Or.inr ⟨g, cap, by rw [← k3]; rfl, k1, Nat.lt_of_lt_of_le k2 hb9.size, rowG_holds (sortedG_is HS.out HP.out hq hs) (SWK.holds ⟨q, os, rfl⟩ k2 HH.out hq.1)⟩, h4.trans hb9⟩
theorem bgoods_any (w : World) (B : Nat) (x : Bl) (b : Bk) (h : IsBk w B x b) :
  Calls Tryz.prog 25 #[.pointer (some ⟨x.p, 0, none⟩)] w fun e w' => ∃ v, e = .returned v ∧ GoodsAt w' w.heap.size v b.1 ∧ Below w.heap.size w w' := by
 have hW := whole_any w B x b h
 obtain ⟨ps, bs, h⟩ := h
 obtain ⟨p0, _⟩ := h.cells
 have hb1 : Below w.heap.size w (w.alloc (.cells #[.map (some x.g)] 87)) := (Below.refl _ w).alloc (Nat.le_refl _) _
 have n1 := heap_alloc_new w (.cells #[.map (some x.g)] 87)
 have HS : Hid (Calls Tryz.prog 55 _ _ _) := sortedFuncG w.heap.size x.g b.1 (w.alloc (.cells #[.map (some x.g)] 87)) h.ok.wf.gl h.ok.gs (by simp) (by rw [cell_of_heap n1]; rfl) (h.all hb1).G
 have HV : Hid (Calls Tryz.prog 56 _ _ _) := values_any x.g w
 have HW : Hid (Calls Tryz.prog 38 _ _ _) := hW
 have HB : Hid (Below _ _ _) := hb1
 clear h hW hb1 n1
 go_enter Tryz.func25, Tryz.ntmps25
 go_wp2_with (first
  | (go_at_call 38; refine HW.out.mono ?_; rintro e w1 ⟨rfl, hw⟩; have hw' := hw.symm; subst hw')
  | (go_at_call 56; refine HV.out.mono ?_; rintro e w2 ⟨rfl, rfl⟩)
  | (go_at_call 55; refine HS.out.mono ?_; rintro e w3 ⟨v, rfl, hg, hb⟩))
 go_ret
 refine ⟨v, rfl, ?_, HB.out.trans (hb.mono HB.out.size)⟩
 rcases hg with hg | ⟨g, cap, h1, h2, h3, h4⟩
 ·exact Or.inl hg
 ·exact Or.inr ⟨g, cap, h1, Nat.le_trans HB.out.size h2, h3, h4⟩
end Go.Proofs.YtppodkkefegbkaaGreatDoor
namespace Go.Proofs.YtppodkkefegbkaaGreatDoor
open Go.RowKit Go.Lib Go.Sort
section
variable {P : Program} {k : TypeId} {w : World} {ops : Array Oper} {rest : List Oper} {o : Oper} {a : Act} {Q : Exit → Act → World → Prop}
end
end Go.Proofs.YtppodkkefegbkaaGreatDoor
namespace Go.Proofs.YtppodkkefegbkaaGreatDoor
open Go.RowKit Go.Lib Go.Sort Go.Shelf
end Go.Proofs.YtppodkkefegbkaaGreatDoor
namespace Go.Proofs.YtppodkkefegbkaaGreatDoor
open Go.RowKit Go.Lib Go.Sort
theorem IsBk.sizeG {w : World} {B : Nat} {x : Bl} {b : Bk} (h : IsBk w B x b) {g : Gs} (hg : g ∈ b.1) : g.1.1.size ≤ maxLen := by
 obtain ⟨ps, bs, h⟩ := h
 obtain ⟨kl, hk⟩ := h.G.keys _ (List.mem_map.2 ⟨g, hg, rfl⟩)
 obtain ⟨s, e, _, hs⟩ := WideMaps.string_of_keyOf Tryz.underlying9 hk
 cases e
 exact hs
end Go.Proofs.YtppodkkefegbkaaGreatDoor
