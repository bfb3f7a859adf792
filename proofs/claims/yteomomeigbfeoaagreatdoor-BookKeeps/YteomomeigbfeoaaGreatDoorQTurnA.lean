/-
 What turn does: pieces of a lot come, go, move, are held or free; an error leaves the book as it was; no old block but the book's own is turned.
-/
import Derived.Test.YteomomeigbfeoaaGreatDoorJz17
import Derived.Deep.RegionHeld3
set_option maxRecDepth 100000
set_option maxHeartbeats 16000000
namespace Go.Proofs.YteomomeigbfeoaaGreatDoor
open Go.RowKit Go.Lib Go.Sort
theorem turn_none (w : World) (s : Nat → Addr) (B : Nat) (x : Bl) (b : Bk) (e : En) (h : IsBk w B x b) (hz : SzE e) (hs : Bs w s) (hn : ∀ y ∈ b.2.1, nameL y ≠ e.2.2.1.1) :
  Calls Tryz.prog 50 #[.pointer (some ⟨x.p, 0, none⟩), agE e] w fun r w' => r = .returned (errP s (6)) ∧ IsBk w' B x b ∧ Off x.all w w' := by
 obtain ⟨ps, bs, h⟩ := h
 have hE := BlkE.new w e
 have hb1 : Below w.heap.size w (w.alloc (celE e)) := (Below.refl _ w).alloc (Nat.le_refl _) _
 obtain ⟨W, hW⟩ : ∃ W, w.alloc (celE e) = W := ⟨_, rfl⟩
 rw [hW] at hE hb1
 have hB1 := h.all hb1
 have hq := hB1.askL_no hz.li hn
 obtain ⟨V1, V2, V3, V4, V5, e1, e2, e3, e4, e5, ⟨k1, k2, k3, k4, k5⟩, ⟨k6, k7⟩, ⟨k8, k9⟩, ⟨k10, k11⟩, n5, kb1, kb5⟩ := boxed4 W (.string ⟨#[]⟩) (.string ⟨#[]⟩) (.int .i64 0) (.int .i64 0) (.string ⟨#[]⟩) (.string ⟨#[]⟩) (.int .i64 0) (.int .i64 0) 26
 have hbV : Below w.heap.size w V5 := hb1.trans (kb5.mono hb1.size)
 have hsV : V5.cell? ⟨2, 0, none⟩ = some (err (s 5)) := (hs.below hbV).none_
 have HF : Hid (IsBk V5 B x b ∧ Off x.all w V5) := ⟨⟨ps, bs, h.all hbV⟩, Off.of_below hbV⟩
 have c3 := hE.at.c3
 obtain ⟨_, _, p2, _⟩ := hB1.cells
 clear kb1 kb5 hbV hb1 hB1 hE h hs hn n5 hz
 obtain ⟨ak, ⟨agc, agp⟩, ⟨ali, alc, alu, alk⟩, ⟨afz, afr, afb⟩, ⟨atz, atr, atb⟩, an⟩ := e
 unfold agE celE at *
 simp only at *
 go_enter Tryz.func50, Tryz.ntmps50
 go_wp2_with (at_lookup; refine wpL_ask rfl _ _ 93 rfl x.l _ _ rfl rfl hq ?_)
 go_ret
 exact ⟨rfl, HF.out⟩
theorem turn_stk (w : World) (s : Nat → Addr) (B : Nat) (x : Bl) (b : Bk) (e : En) (h : IsBk w B x b) (hz : SzE e) (hs : Bs w s) (k i : Nat) (l : Lh) (g : Gs) (hl : b.2.1[k]? = some l) (hid : nameL l = e.2.2.1.1) (hg : b.1[i]? = some g) (hgn : nameG g = l.1.2.1) (he : entErr e = 0) (h1 : e.1 ≠ kGoods) (h2 : e.1 ≠ kLot) (hc : stkE e b.2.2 ≠ 0) :
  Calls Tryz.prog 50 #[.pointer (some ⟨x.p, 0, none⟩), agE e] w fun r w' => r = .returned (errP s (stkE e b.2.2)) ∧ IsBk w' B x b ∧ Off x.all w w' := by
 obtain ⟨ps, bs, h⟩ := h
 have hE := BlkE.new w e
 have hb1 : Below w.heap.size w (w.alloc (celE e)) := (Below.refl _ w).alloc (Nat.le_refl _) _
 obtain ⟨W, hW⟩ : ∃ W, w.alloc (celE e) = W := ⟨_, rfl⟩
 rw [hW] at hE hb1
 have hB1 := h.all hb1
 have hlm := List.mem_of_getElem? hl
 have hgm := List.mem_of_getElem? hg
 have hq := hB1.askL_yes hz.li hlm hid
 obtain ⟨V1, V2, V3, V4, V5, e1, e2, e3, e4, e5, ⟨k1, k2, k3, k4, k5⟩, ⟨k6, k7⟩, ⟨k8, k9⟩, ⟨k10, k11⟩, n5, kb1, kb5⟩ := boxed4 W (.string ⟨#[]⟩) (.string ⟨#[]⟩) (.int .i64 0) (.int .i64 0) (.string l.1.1) (.string l.1.2.1) (.int .i64 l.1.2.2.1) (.int .i64 l.1.2.2.2) 26
 have hbV : Below w.heap.size w V5 := hb1.trans (kb5.mono hb1.size)
 have hT : Tw w V5.drew B x ps bs b e W.heap.size l.1 := Tw.drew ⟨hbV, h.all hbV, hE.below kb5, n5, hb1.size⟩
 have hC1 := stockAfter_any V5.drew s ps bs b.2.2 e hT.book.S hz (hs.below hT.below).five he h1 h2
 have hnum := piece_num he h1 h2
 have hsum := h.ok.wf.sums g hgm
 have hheld := h.ok.wf.held l hlm
 have hheld2 : l.2 ≤ 1099511627776 := Int.le_trans hheld.2 (h.ok.wf.st.most _)
 rw [errP_pos s hc] at hC1 ⊢
 generalize s (stkE e b.2.2 - 1) = ad at *
 have HSs : Hid (∀ W, Below w.heap.size w W → Bs W s) := fun W hb => hs.below hb
 have c3 := hE.at.c3
 obtain ⟨_, _, p2, _⟩ := hB1.cells
 have p4 := hT.book.cells.2.2.2.2.1
 obtain ⟨t0, t1, t2, t3, t4, t5, t6, t7, t8, t9, t10, t11, t12, t13⟩ := hT.ent.at; (try simp only at t0 t1 t2 t3 t4 t5 t6 t7 t8 t9 t10 t11 t12 t13)
 have HT : Hid (Tw _ _ _ _ _ _ _ _ _ _) := hT
 have HC1 : Hid (Calls Tryz.prog 91 _ _ _) := hC1
 have HV : Hid (w.heap.size ≤ V5.drew.heap.size) := hbV.size
 have _u := hgn
 clear _u
 clear kb1 kb5 hbV hb1 hB1 hE h hs hz hT hC1 hnum hsum hheld hheld2 hlm hgm hl hg hid hgn he h1 h2 hc n5
 obtain ⟨ak, ⟨agc, agp⟩, ⟨ali, alc, alu, alk⟩, ⟨afz, afr, afb⟩, ⟨atz, atr, atb⟩, an⟩ := e
 obtain ⟨⟨lli, llc, llu, llk⟩, lh⟩ := l
 unfold agE celE at *
 simp only at *
 go_enter Tryz.func50, Tryz.ntmps50
 go_wp2_with (at_lookup; refine wpL_ask rfl _ _ 93 rfl x.l _ _ rfl rfl hq ?_)
 go_region_held3 (fun w' => w'.cell? ⟨x.p, 4, none⟩ = some (.pointer (some ⟨ps, 0, none⟩)) ∧ w'.cell? ⟨w.heap.size, 0, none⟩ = some (.string ak) ∧ w'.cell? ⟨w.heap.size, 1, none⟩ = some (.string agc) ∧ w'.cell? ⟨w.heap.size, 2, none⟩ = some (.int .i64 agp) ∧ w'.cell? ⟨w.heap.size, 3, none⟩ = some (.string ali) ∧ w'.cell? ⟨w.heap.size, 4, none⟩ = some (.string alc) ∧ w'.cell? ⟨w.heap.size, 5, none⟩ = some (.int .i64 alu) ∧ w'.cell? ⟨w.heap.size, 6, none⟩ = some (.int .i64 alk) ∧ w'.cell? ⟨w.heap.size, 7, none⟩ = some (.string afz) ∧ w'.cell? ⟨w.heap.size, 8, none⟩ = some (.int .i64 afr) ∧ w'.cell? ⟨w.heap.size, 9, none⟩ = some (.int .i64 afb) ∧ w'.cell? ⟨w.heap.size, 10, none⟩ = some (.string atz) ∧ w'.cell? ⟨w.heap.size, 11, none⟩ = some (.int .i64 atr) ∧ w'.cell? ⟨w.heap.size, 12, none⟩ = some (.int .i64 atb) ∧ w'.cell? ⟨w.heap.size, 13, none⟩ = some (.int .i64 an)) (go_keep) (first | (go_at_call 91; refine HC1.out.mono ?_; rintro r w2 ⟨p', b', rfl, hns⟩; have h2 := HT.out.go hns.below; have p4b := h2.book.cells.2.2.2.2.1; obtain ⟨v0, v1, v2, v3, v4, v5, v6, v7, v8, v9, v10, v11, v12, v13⟩ := h2.ent.at; (try simp only at v0 v1 v2 v3 v4 v5 v6 v7 v8 v9 v10 v11 v12 v13); have HN2 : Hid (NewSt _ _ _ _ _) := hns; have HT2 : Hid (Tw _ _ _ _ _ _ _ _ _ _) := h2; clear hns h2))
 go_wp2
 go_ret
 exact ⟨rfl, HT2.out.fin_⟩
theorem turn_neg (w : World) (s : Nat → Addr) (B : Nat) (x : Bl) (b : Bk) (e : En) (h : IsBk w B x b) (hz : SzE e) (hs : Bs w s) (k i : Nat) (l : Lh) (g : Gs) (hl : b.2.1[k]? = some l) (hid : nameL l = e.2.2.1.1) (hg : b.1[i]? = some g) (hgn : nameG g = l.1.2.1) (he : entErr e = 0) (h1 : e.1 ≠ kGoods) (h2 : e.1 ≠ kLot) (hc : stkE e b.2.2 = 0) (hh : heldN e.1 l.2 e.2.2.2.2.2 < 0) :
  Calls Tryz.prog 50 #[.pointer (some ⟨x.p, 0, none⟩), agE e] w fun r w' => r = .returned (errP s (9)) ∧ IsBk w' B x b ∧ Off x.all w w' := by
 obtain ⟨ps, bs, h⟩ := h
 have hE := BlkE.new w e
 have hb1 : Below w.heap.size w (w.alloc (celE e)) := (Below.refl _ w).alloc (Nat.le_refl _) _
 obtain ⟨W, hW⟩ : ∃ W, w.alloc (celE e) = W := ⟨_, rfl⟩
 rw [hW] at hE hb1
 have hB1 := h.all hb1
 have hlm := List.mem_of_getElem? hl
 have hgm := List.mem_of_getElem? hg
 have hq := hB1.askL_yes hz.li hlm hid
 obtain ⟨V1, V2, V3, V4, V5, e1, e2, e3, e4, e5, ⟨k1, k2, k3, k4, k5⟩, ⟨k6, k7⟩, ⟨k8, k9⟩, ⟨k10, k11⟩, n5, kb1, kb5⟩ := boxed4 W (.string ⟨#[]⟩) (.string ⟨#[]⟩) (.int .i64 0) (.int .i64 0) (.string l.1.1) (.string l.1.2.1) (.int .i64 l.1.2.2.1) (.int .i64 l.1.2.2.2) 26
 have hbV : Below w.heap.size w V5 := hb1.trans (kb5.mono hb1.size)
 have hT : Tw w V5.drew B x ps bs b e W.heap.size l.1 := Tw.drew ⟨hbV, h.all hbV, hE.below kb5, n5, hb1.size⟩
 have hC1 := stockAfter_any V5.drew s ps bs b.2.2 e hT.book.S hz (hs.below hT.below).five he h1 h2
 have hnum := piece_num he h1 h2
 have hsum := h.ok.wf.sums g hgm
 have hheld := h.ok.wf.held l hlm
 have hheld2 : l.2 ≤ 1099511627776 := Int.le_trans hheld.2 (h.ok.wf.st.most _)
 rw [hc, errP_zero] at hC1
 have HH : Hid (∀ W, Calls Tryz.prog 92 #[.int .i64 l.2, agE e] W fun r w' => r = .returned (.int .i64 (heldN e.1 l.2 e.2.2.2.2.2)) ∧ Below W.heap.size W w') := fun W => heldAfter_any l.2 e W ⟨hheld.1, hheld2⟩ hnum
 have HLH : Hid (∀ W, Tw w W B x ps bs b e W.heap.size l.1 ∨ BkAt W B x ps bs b → (Instr.lookup 94 (.map (some x.h)) (.string e.2.2.1.1) false).run Tryz.prog W = .ok (.int .i64 l.2) W) := fun W hW => (hW.elim Tw.book id).lookH hz.li hlm hid
 have HSs : Hid (∀ W, Below w.heap.size w W → Bs W s) := fun W hb => hs.below hb
 have c3 := hE.at.c3
 obtain ⟨_, _, p2, _⟩ := hB1.cells
 have p4 := hT.book.cells.2.2.2.2.1
 obtain ⟨t0, t1, t2, t3, t4, t5, t6, t7, t8, t9, t10, t11, t12, t13⟩ := hT.ent.at; (try simp only at t0 t1 t2 t3 t4 t5 t6 t7 t8 t9 t10 t11 t12 t13)
 have HT : Hid (Tw _ _ _ _ _ _ _ _ _ _) := hT
 have HC1 : Hid (Calls Tryz.prog 91 _ _ _) := hC1
 have HV : Hid (w.heap.size ≤ V5.drew.heap.size) := hbV.size
 generalize hHN : heldN e.1 l.2 e.2.2.2.2.2 = hd at *
 have _u := hgn
 clear _u
 clear kb1 kb5 hbV hb1 hB1 hE h hs hz hT hC1 hnum hsum hheld hheld2 hlm hgm hl hg hid hgn he h1 h2 hc n5
 obtain ⟨ak, ⟨agc, agp⟩, ⟨ali, alc, alu, alk⟩, ⟨afz, afr, afb⟩, ⟨atz, atr, atb⟩, an⟩ := e
 obtain ⟨⟨lli, llc, llu, llk⟩, lh⟩ := l
 unfold agE celE at *
 simp only at *
 go_enter Tryz.func50, Tryz.ntmps50
 go_wp2_with (at_lookup; refine wpL_ask rfl _ _ 93 rfl x.l _ _ rfl rfl hq ?_)
 go_region_held3 (fun w' => w'.cell? ⟨x.p, 4, none⟩ = some (.pointer (some ⟨ps, 0, none⟩)) ∧ w'.cell? ⟨w.heap.size, 0, none⟩ = some (.string ak) ∧ w'.cell? ⟨w.heap.size, 1, none⟩ = some (.string agc) ∧ w'.cell? ⟨w.heap.size, 2, none⟩ = some (.int .i64 agp) ∧ w'.cell? ⟨w.heap.size, 3, none⟩ = some (.string ali) ∧ w'.cell? ⟨w.heap.size, 4, none⟩ = some (.string alc) ∧ w'.cell? ⟨w.heap.size, 5, none⟩ = some (.int .i64 alu) ∧ w'.cell? ⟨w.heap.size, 6, none⟩ = some (.int .i64 alk) ∧ w'.cell? ⟨w.heap.size, 7, none⟩ = some (.string afz) ∧ w'.cell? ⟨w.heap.size, 8, none⟩ = some (.int .i64 afr) ∧ w'.cell? ⟨w.heap.size, 9, none⟩ = some (.int .i64 afb) ∧ w'.cell? ⟨w.heap.size, 10, none⟩ = some (.string atz) ∧ w'.cell? ⟨w.heap.size, 11, none⟩ = some (.int .i64 atr) ∧ w'.cell? ⟨w.heap.size, 12, none⟩ = some (.int .i64 atb) ∧ w'.cell? ⟨w.heap.size, 13, none⟩ = some (.int .i64 an)) (go_keep) (first | (go_at_call 91; refine HC1.out.mono ?_; rintro r w2 ⟨p', b', rfl, hns⟩; have h2 := HT.out.go hns.below; have p4b := h2.book.cells.2.2.2.2.1; obtain ⟨v0, v1, v2, v3, v4, v5, v6, v7, v8, v9, v10, v11, v12, v13⟩ := h2.ent.at; (try simp only at v0 v1 v2 v3 v4 v5 v6 v7 v8 v9 v10 v11 v12 v13); have HN2 : Hid (NewSt _ _ _ _ _) := hns; have HT2 : Hid (Tw _ _ _ _ _ _ _ _ _ _) := h2; clear hns h2))
 go_wp2
 have h2d := HT2.out.drew
 have p3 := h2d.book.cells.2.2.2.1
 have lh2 := HLH.out _ (Or.inr h2d.book)
 obtain ⟨u0, u1, u2, u3, u4, u5, u6, u7, u8, u9, u10, u11, u12, u13⟩ := h2d.ent.at; (try simp only at u0 u1 u2 u3 u4 u5 u6 u7 u8 u9 u10 u11 u12 u13)
 have H2d : Hid (Tw _ _ _ _ _ _ _ _ _ _) := h2d
 clear h2d
 go_region_held3 (fun w' => w'.cell? ⟨x.p, 3, none⟩ = some (.map (some x.h)) ∧ (Instr.lookup 94 (.map (some x.h)) (.string ali) false).run Tryz.prog w' = .ok (.int .i64 lh) w' ∧ w'.cell? ⟨w.heap.size, 0, none⟩ = some (.string ak) ∧ w'.cell? ⟨w.heap.size, 1, none⟩ = some (.string agc) ∧ w'.cell? ⟨w.heap.size, 2, none⟩ = some (.int .i64 agp) ∧ w'.cell? ⟨w.heap.size, 3, none⟩ = some (.string ali) ∧ w'.cell? ⟨w.heap.size, 4, none⟩ = some (.string alc) ∧ w'.cell? ⟨w.heap.size, 5, none⟩ = some (.int .i64 alu) ∧ w'.cell? ⟨w.heap.size, 6, none⟩ = some (.int .i64 alk) ∧ w'.cell? ⟨w.heap.size, 7, none⟩ = some (.string afz) ∧ w'.cell? ⟨w.heap.size, 8, none⟩ = some (.int .i64 afr) ∧ w'.cell? ⟨w.heap.size, 9, none⟩ = some (.int .i64 afb) ∧ w'.cell? ⟨w.heap.size, 10, none⟩ = some (.string atz) ∧ w'.cell? ⟨w.heap.size, 11, none⟩ = some (.int .i64 atr) ∧ w'.cell? ⟨w.heap.size, 12, none⟩ = some (.int .i64 atb) ∧ w'.cell? ⟨w.heap.size, 13, none⟩ = some (.int .i64 an)) (go_keep) (first | (go_at_call 92; refine (HH.out _).mono ?_; rintro r w3 ⟨rfl, hb3⟩; have HN3 : Hid (NewSt _ _ _ _ _) := (HN2.out.later (Below.refl _ _).drew).later hb3; have h3 := H2d.out.go hb3; have p3b := h3.book.cells.2.2.2.1; have lh3 := HLH.out _ (Or.inr h3.book); obtain ⟨y0, y1, y2, y3, y4, y5, y6, y7, y8, y9, y10, y11, y12, y13⟩ := h3.ent.at; (try simp only at y0 y1 y2 y3 y4 y5 y6 y7 y8 y9 y10 y11 y12 y13); have HT3 : Hid (Tw _ _ _ _ _ _ _ _ _ _) := h3; clear hb3 h3))
 have hs3 := (HSs.out _ HT3.out.below).five.short
 go_wp2
 go_ret
 exact ⟨rfl, HT3.out.fin_⟩
end Go.Proofs.YteomomeigbfeoaaGreatDoor
