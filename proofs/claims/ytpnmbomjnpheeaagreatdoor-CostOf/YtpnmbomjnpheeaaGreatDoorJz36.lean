/-
 What turn does: pieces of a lot come, go, move, are held or free; an error leaves the book as it was; no old block but the book's own is turned.
-/
import Derived.Test.YtpnmbomjnpheeaaGreatDoorJz35
import Derived.Deep.RegionHeld3
import Derived.Test.YtpnmbomjnpheeaaGreatDoorJz11
import Derived.Test.YtpnmbomjnpheeaaGreatDoorJz12
import Derived.BigQuiet
set_option maxRecDepth 100000
set_option maxHeartbeats 16000000
namespace Go.Proofs.YtpnmbomjnpheeaaGreatDoor
open Go.RowKit Go.Lib Go.Sort
theorem turn_none (w : World) (s : Nat → Addr) (B : Nat) (x : Bl) (b : Bk) (e : En) (h : IsBk w B x b) (hz : SzE e) (hs : Bs w s) (hn : ∀ y ∈ b.2.1, nameL y ≠ e.2.2.1.1) :
  Calls Tryz.prog 54 #[.pointer (some ⟨x.p, 0, none⟩), agE e] w fun r w' => r = .returned (errP s (6)) ∧ IsBk w' B x b ∧ Off x.all w w' := by
 obtain ⟨ps, bs, h⟩ := h
 have hE := BlkE.new w e
 have hb1 : Below w.heap.size w (w.alloc (celE e)) := (Below.refl _ w).alloc (Nat.le_refl _) _
 obtain ⟨W, hW⟩ : ∃ W, w.alloc (celE e) = W := ⟨_, rfl⟩
 rw [hW] at hE hb1
 have hB1 := h.all hb1
 have hq := hB1.askL_no hz.li hn
 obtain ⟨V1, V2, V3, V4, V5, e1, e2, e3, e4, e5, ⟨k1, k2, k3, k4, k5⟩, ⟨k6, k7⟩, ⟨k8, k9⟩, ⟨k10, k11⟩, n5, kb1, kb5⟩ := boxed4 W (.string ⟨#[]⟩) (.string ⟨#[]⟩) (.int .i64 0) (.int .i64 0) (.string ⟨#[]⟩) (.string ⟨#[]⟩) (.int .i64 0) (.int .i64 0) 46
 have hbV : Below w.heap.size w V5 := hb1.trans (kb5.mono hb1.size)
 have hsV : V5.cell? ⟨0, 0, none⟩ = some (err (s 5)) := (hs.below hbV).none_
 have HF : Hid (IsBk V5 B x b ∧ Off x.all w V5) := ⟨⟨ps, bs, h.all hbV⟩, Off.of_below hbV⟩
 have c3 := hE.at.c3
 obtain ⟨_, _, p2, _⟩ := hB1.cells
 clear kb1 kb5 hbV hb1 hB1 hE h hs hn n5 hz
 obtain ⟨ak, ⟨agc, agp⟩, ⟨ali, alc, alu, alk⟩, ⟨afz, afr, afb⟩, ⟨atz, atr, atb⟩, an⟩ := e
 unfold agE celE at *
 simp only at *
 go_enter Tryz.func54, Tryz.ntmps54
 go_wp2_with (at_lookup; refine wpL_ask rfl _ _ 94 rfl x.l _ _ rfl rfl hq ?_)
 go_ret
 exact ⟨rfl, HF.out⟩
theorem turn_stk (w : World) (s : Nat → Addr) (B : Nat) (x : Bl) (b : Bk) (e : En) (h : IsBk w B x b) (hz : SzE e) (hs : Bs w s) (k i : Nat) (l : Lh) (g : Gs) (hl : b.2.1[k]? = some l) (hid : nameL l = e.2.2.1.1) (hg : b.1[i]? = some g) (hgn : nameG g = l.1.2.1) (he : entErr e = 0) (h1 : e.1 ≠ kGoods) (h2 : e.1 ≠ kLot) (hc : stkE e b.2.2 ≠ 0) :
  Calls Tryz.prog 54 #[.pointer (some ⟨x.p, 0, none⟩), agE e] w fun r w' => r = .returned (errP s (stkE e b.2.2)) ∧ IsBk w' B x b ∧ Off x.all w w' := by
 obtain ⟨ps, bs, h⟩ := h
 have hE := BlkE.new w e
 have hb1 : Below w.heap.size w (w.alloc (celE e)) := (Below.refl _ w).alloc (Nat.le_refl _) _
 obtain ⟨W, hW⟩ : ∃ W, w.alloc (celE e) = W := ⟨_, rfl⟩
 rw [hW] at hE hb1
 have hB1 := h.all hb1
 have hlm := List.mem_of_getElem? hl
 have hgm := List.mem_of_getElem? hg
 have hq := hB1.askL_yes hz.li hlm hid
 obtain ⟨V1, V2, V3, V4, V5, e1, e2, e3, e4, e5, ⟨k1, k2, k3, k4, k5⟩, ⟨k6, k7⟩, ⟨k8, k9⟩, ⟨k10, k11⟩, n5, kb1, kb5⟩ := boxed4 W (.string ⟨#[]⟩) (.string ⟨#[]⟩) (.int .i64 0) (.int .i64 0) (.string l.1.1) (.string l.1.2.1) (.int .i64 l.1.2.2.1) (.int .i64 l.1.2.2.2) 46
 have hbV : Below w.heap.size w V5 := hb1.trans (kb5.mono hb1.size)
 have hT : Tw w V5.drew B x ps bs b e W.heap.size l.1 := Tw.drew ⟨hbV, h.all hbV, hE.below kb5, n5, hb1.size⟩
 have hC1 := stockAfter_any V5.drew s ps bs b.2.2 e hT.book.S hz (hs.below hT.below).five he h1 h2
 have hnum := piece_num he h1 h2
 have hsum := h.ok.wf.sums g hgm
 have hheld := h.ok.wf.held l hlm
 have hheld2 : l.2 ≤ 1099511627776 := Int.le_trans hheld.2 (h.ok.wf.st.most _)
 rw [errP_pos s hc] at hC1 ⊢
 generalize s (stkE e b.2.2 - 1) = ad at *
 have HSs : Hid (∀ W, Below w.heap.size w W → Bs W s) := fun W hb => hs.below hb
 have c3 := hE.at.c3
 obtain ⟨_, _, p2, _⟩ := hB1.cells
 have p4 := hT.book.cells.2.2.2.2.1
 obtain ⟨t0, t1, t2, t3, t4, t5, t6, t7, t8, t9, t10, t11, t12, t13⟩ := hT.ent.at; (try simp only at t0 t1 t2 t3 t4 t5 t6 t7 t8 t9 t10 t11 t12 t13)
 have HT : Hid (Tw _ _ _ _ _ _ _ _ _ _) := hT
 have HC1 : Hid (Calls Tryz.prog 77 _ _ _) := hC1
 have HV : Hid (w.heap.size ≤ V5.drew.heap.size) := hbV.size
 have _u := hgn
 clear _u
 clear kb1 kb5 hbV hb1 hB1 hE h hs hz hT hC1 hnum hsum hheld hheld2 hlm hgm hl hg hid hgn he h1 h2 hc n5
 obtain ⟨ak, ⟨agc, agp⟩, ⟨ali, alc, alu, alk⟩, ⟨afz, afr, afb⟩, ⟨atz, atr, atb⟩, an⟩ := e
 obtain ⟨⟨lli, llc, llu, llk⟩, lh⟩ := l
 unfold agE celE at *
 simp only at *
 go_enter Tryz.func54, Tryz.ntmps54
 go_wp2_with (at_lookup; refine wpL_ask rfl _ _ 94 rfl x.l _ _ rfl rfl hq ?_)
 go_region_held3 (fun w' => w'.cell? ⟨x.p, 4, none⟩ = some (.pointer (some ⟨ps, 0, none⟩)) ∧ w'.cell? ⟨w.heap.size, 0, none⟩ = some (.string ak) ∧ w'.cell? ⟨w.heap.size, 1, none⟩ = some (.string agc) ∧ w'.cell? ⟨w.heap.size, 2, none⟩ = some (.int .i64 agp) ∧ w'.cell? ⟨w.heap.size, 3, none⟩ = some (.string ali) ∧ w'.cell? ⟨w.heap.size, 4, none⟩ = some (.string alc) ∧ w'.cell? ⟨w.heap.size, 5, none⟩ = some (.int .i64 alu) ∧ w'.cell? ⟨w.heap.size, 6, none⟩ = some (.int .i64 alk) ∧ w'.cell? ⟨w.heap.size, 7, none⟩ = some (.string afz) ∧ w'.cell? ⟨w.heap.size, 8, none⟩ = some (.int .i64 afr) ∧ w'.cell? ⟨w.heap.size, 9, none⟩ = some (.int .i64 afb) ∧ w'.cell? ⟨w.heap.size, 10, none⟩ = some (.string atz) ∧ w'.cell? ⟨w.heap.size, 11, none⟩ = some (.int .i64 atr) ∧ w'.cell? ⟨w.heap.size, 12, none⟩ = some (.int .i64 atb) ∧ w'.cell? ⟨w.heap.size, 13, none⟩ = some (.int .i64 an)) (go_keep) (first | (go_at_call 77; refine HC1.out.mono ?_; rintro r w2 ⟨p', b', rfl, hns⟩; have h2 := HT.out.go hns.below; have p4b := h2.book.cells.2.2.2.2.1; obtain ⟨v0, v1, v2, v3, v4, v5, v6, v7, v8, v9, v10, v11, v12, v13⟩ := h2.ent.at; (try simp only at v0 v1 v2 v3 v4 v5 v6 v7 v8 v9 v10 v11 v12 v13); have HN2 : Hid (NewSt _ _ _ _ _) := hns; have HT2 : Hid (Tw _ _ _ _ _ _ _ _ _ _) := h2; clear hns h2))
 go_wp2
 go_ret
 exact ⟨rfl, HT2.out.fin_⟩
theorem turn_neg (w : World) (s : Nat → Addr) (B : Nat) (x : Bl) (b : Bk) (e : En) (h : IsBk w B x b) (hz : SzE e) (hs : Bs w s) (k i : Nat) (l : Lh) (g : Gs) (hl : b.2.1[k]? = some l) (hid : nameL l = e.2.2.1.1) (hg : b.1[i]? = some g) (hgn : nameG g = l.1.2.1) (he : entErr e = 0) (h1 : e.1 ≠ kGoods) (h2 : e.1 ≠ kLot) (hc : stkE e b.2.2 = 0) (hh : heldN e.1 l.2 e.2.2.2.2.2 < 0) :
  Calls Tryz.prog 54 #[.pointer (some ⟨x.p, 0, none⟩), agE e] w fun r w' => r = .returned (errP s (9)) ∧ IsBk w' B x b ∧ Off x.all w w' := by
 obtain ⟨ps, bs, h⟩ := h
 have hE := BlkE.new w e
 have hb1 : Below w.heap.size w (w.alloc (celE e)) := (Below.refl _ w).alloc (Nat.le_refl _) _
 obtain ⟨W, hW⟩ : ∃ W, w.alloc (celE e) = W := ⟨_, rfl⟩
 rw [hW] at hE hb1
 have hB1 := h.all hb1
 have hlm := List.mem_of_getElem? hl
 have hgm := List.mem_of_getElem? hg
 have hq := hB1.askL_yes hz.li hlm hid
 obtain ⟨V1, V2, V3, V4, V5, e1, e2, e3, e4, e5, ⟨k1, k2, k3, k4, k5⟩, ⟨k6, k7⟩, ⟨k8, k9⟩, ⟨k10, k11⟩, n5, kb1, kb5⟩ := boxed4 W (.string ⟨#[]⟩) (.string ⟨#[]⟩) (.int .i64 0) (.int .i64 0) (.string l.1.1) (.string l.1.2.1) (.int .i64 l.1.2.2.1) (.int .i64 l.1.2.2.2) 46
 have hbV : Below w.heap.size w V5 := hb1.trans (kb5.mono hb1.size)
 have hT : Tw w V5.drew B x ps bs b e W.heap.size l.1 := Tw.drew ⟨hbV, h.all hbV, hE.below kb5, n5, hb1.size⟩
 have hC1 := stockAfter_any V5.drew s ps bs b.2.2 e hT.book.S hz (hs.below hT.below).five he h1 h2
 have hnum := piece_num he h1 h2
 have hsum := h.ok.wf.sums g hgm
 have hheld := h.ok.wf.held l hlm
 have hheld2 : l.2 ≤ 1099511627776 := Int.le_trans hheld.2 (h.ok.wf.st.most _)
 rw [hc, errP_zero] at hC1
 have HH : Hid (∀ W, Calls Tryz.prog 78 #[.int .i64 l.2, agE e] W fun r w' => r = .returned (.int .i64 (heldN e.1 l.2 e.2.2.2.2.2)) ∧ Below W.heap.size W w') := fun W => heldAfter_any l.2 e W ⟨hheld.1, hheld2⟩ hnum
 have HLH : Hid (∀ W, Tw w W B x ps bs b e W.heap.size l.1 ∨ BkAt W B x ps bs b → (Instr.lookup 95 (.map (some x.h)) (.string e.2.2.1.1) false).run Tryz.prog W = .ok (.int .i64 l.2) W) := fun W hW => (hW.elim Tw.book id).lookH hz.li hlm hid
 have HSs : Hid (∀ W, Below w.heap.size w W → Bs W s) := fun W hb => hs.below hb
 have c3 := hE.at.c3
 obtain ⟨_, _, p2, _⟩ := hB1.cells
 have p4 := hT.book.cells.2.2.2.2.1
 obtain ⟨t0, t1, t2, t3, t4, t5, t6, t7, t8, t9, t10, t11, t12, t13⟩ := hT.ent.at; (try simp only at t0 t1 t2 t3 t4 t5 t6 t7 t8 t9 t10 t11 t12 t13)
 have HT : Hid (Tw _ _ _ _ _ _ _ _ _ _) := hT
 have HC1 : Hid (Calls Tryz.prog 77 _ _ _) := hC1
 have HV : Hid (w.heap.size ≤ V5.drew.heap.size) := hbV.size
 generalize hHN : heldN e.1 l.2 e.2.2.2.2.2 = hd at *
 have _u := hgn
 clear _u
 clear kb1 kb5 hbV hb1 hB1 hE h hs hz hT hC1 hnum hsum hheld hheld2 hlm hgm hl hg hid hgn he h1 h2 hc n5
 obtain ⟨ak, ⟨agc, agp⟩, ⟨ali, alc, alu, alk⟩, ⟨afz, afr, afb⟩, ⟨atz, atr, atb⟩, an⟩ := e
 obtain ⟨⟨lli, llc, llu, llk⟩, lh⟩ := l
 unfold agE celE at *
 simp only at *
 go_enter Tryz.func54, Tryz.ntmps54
 go_wp2_with (at_lookup; refine wpL_ask rfl _ _ 94 rfl x.l _ _ rfl rfl hq ?_)
 go_region_held3 (fun w' => w'.cell? ⟨x.p, 4, none⟩ = some (.pointer (some ⟨ps, 0, none⟩)) ∧ w'.cell? ⟨w.heap.size, 0, none⟩ = some (.string ak) ∧ w'.cell? ⟨w.heap.size, 1, none⟩ = some (.string agc) ∧ w'.cell? ⟨w.heap.size, 2, none⟩ = some (.int .i64 agp) ∧ w'.cell? ⟨w.heap.size, 3, none⟩ = some (.string ali) ∧ w'.cell? ⟨w.heap.size, 4, none⟩ = some (.string alc) ∧ w'.cell? ⟨w.heap.size, 5, none⟩ = some (.int .i64 alu) ∧ w'.cell? ⟨w.heap.size, 6, none⟩ = some (.int .i64 alk) ∧ w'.cell? ⟨w.heap.size, 7, none⟩ = some (.string afz) ∧ w'.cell? ⟨w.heap.size, 8, none⟩ = some (.int .i64 afr) ∧ w'.cell? ⟨w.heap.size, 9, none⟩ = some (.int .i64 afb) ∧ w'.cell? ⟨w.heap.size, 10, none⟩ = some (.string atz) ∧ w'.cell? ⟨w.heap.size, 11, none⟩ = some (.int .i64 atr) ∧ w'.cell? ⟨w.heap.size, 12, none⟩ = some (.int .i64 atb) ∧ w'.cell? ⟨w.heap.size, 13, none⟩ = some (.int .i64 an)) (go_keep) (first | (go_at_call 77; refine HC1.out.mono ?_; rintro r w2 ⟨p', b', rfl, hns⟩; have h2 := HT.out.go hns.below; have p4b := h2.book.cells.2.2.2.2.1; obtain ⟨v0, v1, v2, v3, v4, v5, v6, v7, v8, v9, v10, v11, v12, v13⟩ := h2.ent.at; (try simp only at v0 v1 v2 v3 v4 v5 v6 v7 v8 v9 v10 v11 v12 v13); have HN2 : Hid (NewSt _ _ _ _ _) := hns; have HT2 : Hid (Tw _ _ _ _ _ _ _ _ _ _) := h2; clear hns h2))
 go_wp2
 have h2d := HT2.out.drew
 have p3 := h2d.book.cells.2.2.2.1
 have lh2 := HLH.out _ (Or.inr h2d.book)
 obtain ⟨u0, u1, u2, u3, u4, u5, u6, u7, u8, u9, u10, u11, u12, u13⟩ := h2d.ent.at; (try simp only at u0 u1 u2 u3 u4 u5 u6 u7 u8 u9 u10 u11 u12 u13)
 have H2d : Hid (Tw _ _ _ _ _ _ _ _ _ _) := h2d
 clear h2d
 go_region_held3 (fun w' => w'.cell? ⟨x.p, 3, none⟩ = some (.map (some x.h)) ∧ (Instr.lookup 95 (.map (some x.h)) (.string ali) false).run Tryz.prog w' = .ok (.int .i64 lh) w' ∧ w'.cell? ⟨w.heap.size, 0, none⟩ = some (.string ak) ∧ w'.cell? ⟨w.heap.size, 1, none⟩ = some (.string agc) ∧ w'.cell? ⟨w.heap.size, 2, none⟩ = some (.int .i64 agp) ∧ w'.cell? ⟨w.heap.size, 3, none⟩ = some (.string ali) ∧ w'.cell? ⟨w.heap.size, 4, none⟩ = some (.string alc) ∧ w'.cell? ⟨w.heap.size, 5, none⟩ = some (.int .i64 alu) ∧ w'.cell? ⟨w.heap.size, 6, none⟩ = some (.int .i64 alk) ∧ w'.cell? ⟨w.heap.size, 7, none⟩ = some (.string afz) ∧ w'.cell? ⟨w.heap.size, 8, none⟩ = some (.int .i64 afr) ∧ w'.cell? ⟨w.heap.size, 9, none⟩ = some (.int .i64 afb) ∧ w'.cell? ⟨w.heap.size, 10, none⟩ = some (.string atz) ∧ w'.cell? ⟨w.heap.size, 11, none⟩ = some (.int .i64 atr) ∧ w'.cell? ⟨w.heap.size, 12, none⟩ = some (.int .i64 atb) ∧ w'.cell? ⟨w.heap.size, 13, none⟩ = some (.int .i64 an)) (go_keep) (first | (go_at_call 78; refine (HH.out _).mono ?_; rintro r w3 ⟨rfl, hb3⟩; have HN3 : Hid (NewSt _ _ _ _ _) := (HN2.out.later (Below.refl _ _).drew).later hb3; have h3 := H2d.out.go hb3; have p3b := h3.book.cells.2.2.2.1; have lh3 := HLH.out _ (Or.inr h3.book); obtain ⟨y0, y1, y2, y3, y4, y5, y6, y7, y8, y9, y10, y11, y12, y13⟩ := h3.ent.at; (try simp only at y0 y1 y2 y3 y4 y5 y6 y7 y8 y9 y10 y11 y12 y13); have HT3 : Hid (Tw _ _ _ _ _ _ _ _ _ _) := h3; clear hb3 h3))
 have hs3 := (HSs.out _ HT3.out.below).five.short
 go_wp2
 go_ret
 exact ⟨rfl, HT3.out.fin_⟩
theorem turn_short (w : World) (s : Nat → Addr) (B : Nat) (x : Bl) (b : Bk) (e : En) (h : IsBk w B x b) (hz : SzE e) (hs : Bs w s) (k i : Nat) (l : Lh) (g : Gs) (hl : b.2.1[k]? = some l) (hid : nameL l = e.2.2.1.1) (hg : b.1[i]? = some g) (hgn : nameG g = l.1.2.1) (he : entErr e = 0) (h1 : e.1 ≠ kGoods) (h2 : e.1 ≠ kLot) (hc : stkE e b.2.2 = 0) (hh : 0 ≤ heldN e.1 l.2 e.2.2.2.2.2) (ho : ofL (stkL e b.2.2) e.2.2.1.1 < heldN e.1 l.2 e.2.2.2.2.2) :
  Calls Tryz.prog 54 #[.pointer (some ⟨x.p, 0, none⟩), agE e] w fun r w' => r = .returned (errP s (9)) ∧ IsBk w' B x b ∧ Off x.all w w' := by
 obtain ⟨ps, bs, h⟩ := h
 have hE := BlkE.new w e
 have hb1 : Below w.heap.size w (w.alloc (celE e)) := (Below.refl _ w).alloc (Nat.le_refl _) _
 obtain ⟨W, hW⟩ : ∃ W, w.alloc (celE e) = W := ⟨_, rfl⟩
 rw [hW] at hE hb1
 have hB1 := h.all hb1
 have hlm := List.mem_of_getElem? hl
 have hgm := List.mem_of_getElem? hg
 have hq := hB1.askL_yes hz.li hlm hid
 obtain ⟨V1, V2, V3, V4, V5, e1, e2, e3, e4, e5, ⟨k1, k2, k3, k4, k5⟩, ⟨k6, k7⟩, ⟨k8, k9⟩, ⟨k10, k11⟩, n5, kb1, kb5⟩ := boxed4 W (.string ⟨#[]⟩) (.string ⟨#[]⟩) (.int .i64 0) (.int .i64 0) (.string l.1.1) (.string l.1.2.1) (.int .i64 l.1.2.2.1) (.int .i64 l.1.2.2.2) 46
 have hbV : Below w.heap.size w V5 := hb1.trans (kb5.mono hb1.size)
 have hT : Tw w V5.drew B x ps bs b e W.heap.size l.1 := Tw.drew ⟨hbV, h.all hbV, hE.below kb5, n5, hb1.size⟩
 have hC1 := stockAfter_any V5.drew s ps bs b.2.2 e hT.book.S hz (hs.below hT.below).five he h1 h2
 have hnum := piece_num he h1 h2
 have hsum := h.ok.wf.sums g hgm
 have hheld := h.ok.wf.held l hlm
 have hheld2 : l.2 ≤ 1099511627776 := Int.le_trans hheld.2 (h.ok.wf.st.most _)
 rw [hc, errP_zero] at hC1
 have HH : Hid (∀ W, Calls Tryz.prog 78 #[.int .i64 l.2, agE e] W fun r w' => r = .returned (.int .i64 (heldN e.1 l.2 e.2.2.2.2.2)) ∧ Below W.heap.size W w') := fun W => heldAfter_any l.2 e W ⟨hheld.1, hheld2⟩ hnum
 have HLH : Hid (∀ W, Tw w W B x ps bs b e W.heap.size l.1 ∨ BkAt W B x ps bs b → (Instr.lookup 95 (.map (some x.h)) (.string e.2.2.1.1) false).run Tryz.prog W = .ok (.int .i64 l.2) W) := fun W hW => (hW.elim Tw.book id).lookH hz.li hlm hid
 have HO : Hid (∀ W p' b', IsStock W p' b' (stkL e b.2.2) → Calls Tryz.prog 79 #[.pointer (some ⟨p', 0, none⟩), .string e.2.2.1.1] W fun r w' => r = .returned (.int .i64 (ofL (stkL e b.2.2) e.2.2.1.1)) ∧ Below W.heap.size W w') := fun W p' b' hi => of_any e.2.2.1.1 W p' b' (stkL e b.2.2) hi
 have HSs : Hid (∀ W, Below w.heap.size w W → Bs W s) := fun W hb => hs.below hb
 have c3 := hE.at.c3
 obtain ⟨_, _, p2, _⟩ := hB1.cells
 have p4 := hT.book.cells.2.2.2.2.1
 obtain ⟨t0, t1, t2, t3, t4, t5, t6, t7, t8, t9, t10, t11, t12, t13⟩ := hT.ent.at; (try simp only at t0 t1 t2 t3 t4 t5 t6 t7 t8 t9 t10 t11 t12 t13)
 have HT : Hid (Tw _ _ _ _ _ _ _ _ _ _) := hT
 have HC1 : Hid (Calls Tryz.prog 77 _ _ _) := hC1
 have HV : Hid (w.heap.size ≤ V5.drew.heap.size) := hbV.size
 generalize hHN : heldN e.1 l.2 e.2.2.2.2.2 = hd at *
 generalize hON : ofL (stkL e b.2.2) e.2.2.1.1 = od at *
 have _u := hgn
 clear _u
 clear kb1 kb5 hbV hb1 hB1 hE h hs hz hT hC1 hnum hsum hheld hheld2 hlm hgm hl hg hid hgn he h1 h2 hc n5
 obtain ⟨ak, ⟨agc, agp⟩, ⟨ali, alc, alu, alk⟩, ⟨afz, afr, afb⟩, ⟨atz, atr, atb⟩, an⟩ := e
 obtain ⟨⟨lli, llc, llu, llk⟩, lh⟩ := l
 unfold agE celE at *
 simp only at *
 go_enter Tryz.func54, Tryz.ntmps54
 go_wp2_with (at_lookup; refine wpL_ask rfl _ _ 94 rfl x.l _ _ rfl rfl hq ?_)
 go_region_held3 (fun w' => w'.cell? ⟨x.p, 4, none⟩ = some (.pointer (some ⟨ps, 0, none⟩)) ∧ w'.cell? ⟨w.heap.size, 0, none⟩ = some (.string ak) ∧ w'.cell? ⟨w.heap.size, 1, none⟩ = some (.string agc) ∧ w'.cell? ⟨w.heap.size, 2, none⟩ = some (.int .i64 agp) ∧ w'.cell? ⟨w.heap.size, 3, none⟩ = some (.string ali) ∧ w'.cell? ⟨w.heap.size, 4, none⟩ = some (.string alc) ∧ w'.cell? ⟨w.heap.size, 5, none⟩ = some (.int .i64 alu) ∧ w'.cell? ⟨w.heap.size, 6, none⟩ = some (.int .i64 alk) ∧ w'.cell? ⟨w.heap.size, 7, none⟩ = some (.string afz) ∧ w'.cell? ⟨w.heap.size, 8, none⟩ = some (.int .i64 afr) ∧ w'.cell? ⟨w.heap.size, 9, none⟩ = some (.int .i64 afb) ∧ w'.cell? ⟨w.heap.size, 10, none⟩ = some (.string atz) ∧ w'.cell? ⟨w.heap.size, 11, none⟩ = some (.int .i64 atr) ∧ w'.cell? ⟨w.heap.size, 12, none⟩ = some (.int .i64 atb) ∧ w'.cell? ⟨w.heap.size, 13, none⟩ = some (.int .i64 an)) (go_keep) (first | (go_at_call 77; refine HC1.out.mono ?_; rintro r w2 ⟨p', b', rfl, hns⟩; have h2 := HT.out.go hns.below; have p4b := h2.book.cells.2.2.2.2.1; obtain ⟨v0, v1, v2, v3, v4, v5, v6, v7, v8, v9, v10, v11, v12, v13⟩ := h2.ent.at; (try simp only at v0 v1 v2 v3 v4 v5 v6 v7 v8 v9 v10 v11 v12 v13); have HN2 : Hid (NewSt _ _ _ _ _) := hns; have HT2 : Hid (Tw _ _ _ _ _ _ _ _ _ _) := h2; clear hns h2))
 go_wp2
 have h2d := HT2.out.drew
 have p3 := h2d.book.cells.2.2.2.1
 have lh2 := HLH.out _ (Or.inr h2d.book)
 obtain ⟨u0, u1, u2, u3, u4, u5, u6, u7, u8, u9, u10, u11, u12, u13⟩ := h2d.ent.at; (try simp only at u0 u1 u2 u3 u4 u5 u6 u7 u8 u9 u10 u11 u12 u13)
 have H2d : Hid (Tw _ _ _ _ _ _ _ _ _ _) := h2d
 clear h2d
 go_region_held3 (fun w' => w'.cell? ⟨x.p, 3, none⟩ = some (.map (some x.h)) ∧ (Instr.lookup 95 (.map (some x.h)) (.string ali) false).run Tryz.prog w' = .ok (.int .i64 lh) w' ∧ w'.cell? ⟨w.heap.size, 0, none⟩ = some (.string ak) ∧ w'.cell? ⟨w.heap.size, 1, none⟩ = some (.string agc) ∧ w'.cell? ⟨w.heap.size, 2, none⟩ = some (.int .i64 agp) ∧ w'.cell? ⟨w.heap.size, 3, none⟩ = some (.string ali) ∧ w'.cell? ⟨w.heap.size, 4, none⟩ = some (.string alc) ∧ w'.cell? ⟨w.heap.size, 5, none⟩ = some (.int .i64 alu) ∧ w'.cell? ⟨w.heap.size, 6, none⟩ = some (.int .i64 alk) ∧ w'.cell? ⟨w.heap.size, 7, none⟩ = some (.string afz) ∧ w'.cell? ⟨w.heap.size, 8, none⟩ = some (.int .i64 afr) ∧ w'.cell? ⟨w.heap.size, 9, none⟩ = some (.int .i64 afb) ∧ w'.cell? ⟨w.heap.size, 10, none⟩ = some (.string atz) ∧ w'.cell? ⟨w.heap.size, 11, none⟩ = some (.int .i64 atr) ∧ w'.cell? ⟨w.heap.size, 12, none⟩ = some (.int .i64 atb) ∧ w'.cell? ⟨w.heap.size, 13, none⟩ = some (.int .i64 an)) (go_keep) (first | (go_at_call 78; refine (HH.out _).mono ?_; rintro r w3 ⟨rfl, hb3⟩; have HN3 : Hid (NewSt _ _ _ _ _) := (HN2.out.later (Below.refl _ _).drew).later hb3; have h3 := H2d.out.go hb3; have p3b := h3.book.cells.2.2.2.1; have lh3 := HLH.out _ (Or.inr h3.book); obtain ⟨y0, y1, y2, y3, y4, y5, y6, y7, y8, y9, y10, y11, y12, y13⟩ := h3.ent.at; (try simp only at y0 y1 y2 y3 y4 y5 y6 y7 y8 y9 y10 y11 y12 y13); have HT3 : Hid (Tw _ _ _ _ _ _ _ _ _ _) := h3; clear hb3 h3))
 go_wp2_with (go_at_call 79; refine (HO.out _ _ _ HN3.out.st).mono ?_; rintro r w4 ⟨rfl, hb4⟩; have hs4 := (HSs.out _ (HT3.out.go hb4).below).five.short; have HN4 : Hid (NewSt _ _ _ _ _) := HN3.out.later hb4; have HT4 : Hid (Tw _ _ _ _ _ _ _ _ _ _) := HT3.out.go hb4; clear hb4)
 go_ret
 exact ⟨rfl, HT4.out.fin_⟩
theorem sets4 {W : World} {A : Nat} {a b c d : Value} {t : TypeId} (n1 : W.heap[A]? = some (.cells #[a, b, c, d] t (0, 0))) (v0 v1 v2 v3 : Value) : ∃ V2 V3 V4 V5 : World, W.setCell ⟨A, 0, none⟩ v0 = V2 ∧ V2.setCell ⟨A, 1, none⟩ v1 = V3 ∧ V3.setCell ⟨A, 2, none⟩ v2 = V4 ∧ V4.setCell ⟨A, 3, none⟩ v3 = V5 ∧
  (W.cell? ⟨A, 0, none⟩ = some a ∧ W.cell? ⟨A, 1, none⟩ = some b ∧ W.cell? ⟨A, 2, none⟩ = some c ∧ W.cell? ⟨A, 3, none⟩ = some d ∧ ∀ o, W.frozen? ⟨A, o, none⟩ = false) ∧ (V2.cell? ⟨A, 1, none⟩ = some b ∧ ∀ o, V2.frozen? ⟨A, o, none⟩ = false) ∧ (V3.cell? ⟨A, 2, none⟩ = some c ∧ ∀ o, V3.frozen? ⟨A, o, none⟩ = false) ∧ (V4.cell? ⟨A, 3, none⟩ = some d ∧ ∀ o, V4.frozen? ⟨A, o, none⟩ = false) ∧
  V5.heap[A]? = some (.cells #[v0, v1, v2, v3] t (0, 0)) ∧ Off [A] W V5 := by
 have n2 : (W.setCell ⟨A, 0, none⟩ v0).heap[A]? = some (.cells #[v0, b, c, d] t (0, 0)) := set_cell n1 0 v0 rfl
 have b2 : Off [A] W (W.setCell ⟨A, 0, none⟩ v0) := (Off.refl _ W).set (by simp) v0
 refine ⟨_, _, _, _, rfl, rfl, rfl, rfl, ?_⟩
 generalize W.setCell ⟨A, 0, none⟩ v0 = V2 at *
 have n3 : (V2.setCell ⟨A, 1, none⟩ v1).heap[A]? = some (.cells #[v0, v1, c, d] t (0, 0)) := set_cell n2 1 v1 rfl
 have b3 : Off [A] W (V2.setCell ⟨A, 1, none⟩ v1) := b2.set (by simp) v1
 generalize V2.setCell ⟨A, 1, none⟩ v1 = V3 at *
 have n4 : (V3.setCell ⟨A, 2, none⟩ v2).heap[A]? = some (.cells #[v0, v1, v2, d] t (0, 0)) := set_cell n3 2 v2 rfl
 have b4 : Off [A] W (V3.setCell ⟨A, 2, none⟩ v2) := b3.set (by simp) v2
 generalize V3.setCell ⟨A, 2, none⟩ v2 = V4 at *
 exact ⟨⟨by rw [cell_of_heap n1]; rfl, by rw [cell_of_heap n1]; rfl, by rw [cell_of_heap n1]; rfl, by rw [cell_of_heap n1]; rfl, fun o => frozen_of_heap n1 o⟩, ⟨by rw [cell_of_heap n2]; rfl, fun o => frozen_of_heap n2 o⟩, ⟨by rw [cell_of_heap n3]; rfl, fun o => frozen_of_heap n3 o⟩, ⟨by rw [cell_of_heap n4]; rfl, fun o => frozen_of_heap n4 o⟩, set_cell n4 3 v3 rfl, b4.set (by simp) v3⟩
theorem cells4 {W : World} {A : Nat} {a b c d : Value} {t : TypeId} (n1 : W.heap[A]? = some (.cells #[a, b, c, d] t (0, 0))) : W.cell? ⟨A, 0, none⟩ = some a ∧ W.cell? ⟨A, 1, none⟩ = some b ∧ W.cell? ⟨A, 2, none⟩ = some c ∧ W.cell? ⟨A, 3, none⟩ = some d := ⟨by rw [cell_of_heap n1]; rfl, by rw [cell_of_heap n1]; rfl, by rw [cell_of_heap n1]; rfl, by rw [cell_of_heap n1]; rfl⟩
theorem cellsT {W : World} {A : Nat} {c : Array Value} {T T' : TypeId} {f : Nat × Nat} {d : Array Value} {f' : Nat × Nat} (h : W.heap[A]? = some (.cells c T f)) (h' : W.heap[A]? = some (.cells d T' f')) : T = T' := by
 rw [h] at h'
 injection h' with h'
 injection h' with _ h2 _
theorem Tw.turn {w W W' : World} {B : Nat} {x : Bl} {ps bs : Nat} {b : Bk} {e : En} {lb : Nat} {l : Lo} (h : Tw w W B x ps bs b e lb l) {A : Nat} (hf : Off [A] W W') (hA : w.heap.size ≤ A) {d : Array Value} (nA : W.heap[A]? = some (.cells d 150 (0, 0))) : Tw w W' B x ps bs b e lb l := by
 have o : ∀ k, k < W.heap.size → k ≠ A → W'.heap[k]? = W.heap[k]? := fun k hk hn => hf.block k hk (by simpa using hn)
 have hl := h.book.low
 have hne : ∀ {k : Nat} {c : Array Value} {T : TypeId} {f : Nat × Nat}, W.heap[k]? = some (.cells c T f) → T ≠ 150 → k ≠ A := fun hk hT e9 => hT (cellsT hk (e9 ▸ nA))
 have hnm : ∀ {k : Nat} {L : List Ent} {kt : TypeId}, MapL Tryz.prog kt W k L → k ≠ A := fun hm e9 => by
  have c0 : W.cell? ⟨A, 0, none⟩ = W.cell? ⟨A, 0, none⟩ := rfl
  obtain ⟨es, ck, hb, _⟩ := hm
  rw [e9, nA] at hb
  cases hb
 refine ⟨h.below.trans (hf.below h.below.size (by simpa using hA)), h.book.of_blocks fun k hk => o k (hl k hk).2 ?_, ?_, ?_, h.lbn⟩
 ·rcases hk with rfl | rfl | rfl | rfl | rfl | rfl | rfl
  ·exact hne h.book.blk (by decide)
  ·exact hnm h.book.G
  ·exact hnm h.book.U
  ·exact hnm h.book.L
  ·exact hnm h.book.H
  ·exact hne h.book.sblk (by decide)
  ·exact hnm h.book.S.map
 ·exact (o _ (Array.getElem?_eq_some_iff.1 h.ent).1 (hne h.ent (by decide))).trans h.ent
 ·exact (o _ (Array.getElem?_eq_some_iff.1 h.lot).1 (hne h.lot (by decide))).trans h.lot
theorem NewSt.other {w0 w1 w2 : World} {p' b' : Nat} {m : List Ln} (h : NewSt w0 w1 p' b' m) {A : Nat} (hf : Off [A] w1 w2) (hA : w0.heap.size ≤ A) {d : Array Value} (nA : w1.heap[A]? = some (.cells d 150 (0, 0))) : NewSt w0 w2 p' b' m := by
 have o : ∀ k, k < w1.heap.size → k ≠ A → w2.heap[k]? = w1.heap[k]? := fun k hk hn => hf.block k hk (by simpa using hn)
 have n1 : p' ≠ A := fun e9 => absurd (cellsT h.blk (e9 ▸ nA)) (by decide)
 have n2 : b' ≠ A := fun e9 => by
  obtain ⟨es, ck, hb, _⟩ := h.st.map
  rw [e9, nA] at hb
  cases hb
 have k1 := o p' h.st.lt.1 n1
 have k2 := o b' h.st.lt.2 n2
 exact ⟨h.st.of_blocks k1 k2, k1.trans h.blk, h.lp, h.lb, h.below.trans (hf.below h.below.size (by simpa using hA))⟩
theorem keyS_size {c : ByteArray} {kl : Lit} (h : keyOf Tryz.prog 9 (.string c) = some kl) : c.size ≤ maxLen := by
 rw [keyOf_string Tryz.underlying9] at h
 simp only [mapKey, Tryz.underlying9] at h
 by_cases hc : c.size ≤ maxLen
 ·exact hc
 ·simp [hc] at h
theorem turn_bound (w : World) (s : Nat → Addr) (B : Nat) (x : Bl) (b : Bk) (e : En) (h : IsBk w B x b) (hz : SzE e) (hs : Bs w s) (k i : Nat) (l : Lh) (g : Gs) (hl : b.2.1[k]? = some l) (hid : nameL l = e.2.2.1.1) (hg : b.1[i]? = some g) (hgn : nameG g = l.1.2.1) (he : entErr e = 0) (h1 : e.1 ≠ kGoods) (h2 : e.1 ≠ kLot) (hc : stkE e b.2.2 = 0) (hh : 0 ≤ heldN e.1 l.2 e.2.2.2.2.2) (ho : heldN e.1 l.2 e.2.2.2.2.2 ≤ ofL (stkL e b.2.2) e.2.2.1.1) (hu : okSu (addSu e.1 g.2 e.2.2.2.2.2) = false) :
  Calls Tryz.prog 54 #[.pointer (some ⟨x.p, 0, none⟩), agE e] w fun r w' => r = .returned (errP s (2)) ∧ IsBk w' B x b ∧ Off x.all w w' := by
 obtain ⟨ps, bs, h⟩ := h
 have hE := BlkE.new w e
 have hb1 : Below w.heap.size w (w.alloc (celE e)) := (Below.refl _ w).alloc (Nat.le_refl _) _
 obtain ⟨W, hW⟩ : ∃ W, w.alloc (celE e) = W := ⟨_, rfl⟩
 rw [hW] at hE hb1
 have hB1 := h.all hb1
 have hlm := List.mem_of_getElem? hl
 have hgm := List.mem_of_getElem? hg
 have hq := hB1.askL_yes hz.li hlm hid
 obtain ⟨V1, V2, V3, V4, V5, e1, e2, e3, e4, e5, ⟨k1, k2, k3, k4, k5⟩, ⟨k6, k7⟩, ⟨k8, k9⟩, ⟨k10, k11⟩, n5, kb1, kb5⟩ := boxed4 W (.string ⟨#[]⟩) (.string ⟨#[]⟩) (.int .i64 0) (.int .i64 0) (.string l.1.1) (.string l.1.2.1) (.int .i64 l.1.2.2.1) (.int .i64 l.1.2.2.2) 46
 have hbV : Below w.heap.size w V5 := hb1.trans (kb5.mono hb1.size)
 have hT : Tw w V5.drew B x ps bs b e W.heap.size l.1 := Tw.drew ⟨hbV, h.all hbV, hE.below kb5, n5, hb1.size⟩
 have hC1 := stockAfter_any V5.drew s ps bs b.2.2 e hT.book.S hz (hs.below hT.below).five he h1 h2
 have hnum := piece_num he h1 h2
 have hsum := h.ok.wf.sums g hgm
 have hheld := h.ok.wf.held l hlm
 have hheld2 : l.2 ≤ 1099511627776 := Int.le_trans hheld.2 (h.ok.wf.st.most _)
 rw [hc, errP_zero] at hC1
 have HH : Hid (∀ W, Calls Tryz.prog 78 #[.int .i64 l.2, agE e] W fun r w' => r = .returned (.int .i64 (heldN e.1 l.2 e.2.2.2.2.2)) ∧ Below W.heap.size W w') := fun W => heldAfter_any l.2 e W ⟨hheld.1, hheld2⟩ hnum
 have HLH : Hid (∀ W, Tw w W B x ps bs b e W.heap.size l.1 ∨ BkAt W B x ps bs b → (Instr.lookup 95 (.map (some x.h)) (.string e.2.2.1.1) false).run Tryz.prog W = .ok (.int .i64 l.2) W) := fun W hW => (hW.elim Tw.book id).lookH hz.li hlm hid
 have HO : Hid (∀ W p' b', IsStock W p' b' (stkL e b.2.2) → Calls Tryz.prog 79 #[.pointer (some ⟨p', 0, none⟩), .string e.2.2.1.1] W fun r w' => r = .returned (.int .i64 (ofL (stkL e b.2.2) e.2.2.1.1)) ∧ Below W.heap.size W w') := fun W p' b' hi => of_any e.2.2.1.1 W p' b' (stkL e b.2.2) hi
 have hcz : l.1.2.1.size ≤ maxLen := by
  obtain ⟨kl, hkl⟩ := h.G.keys _ (List.mem_map.2 ⟨g, hgm, rfl⟩)
  have hss : g.1.1.size ≤ maxLen := by
   simp only [entG] at hkl
   exact keyS_size hkl
  rw [← hgn]; exact hss
 have HU : Hid (∀ W, Calls Tryz.prog 80 #[agU g.2, agE e] W fun r w' => r = .returned (agU (addSu e.1 g.2 e.2.2.2.2.2)) ∧ Below W.heap.size W w') := fun W => sumsAfter_any g.2 e W hsum hnum
 have HLU : Hid (∀ W, BkAt W B x ps bs b → (Instr.lookup 93 (.map (some x.u)) (.string l.1.2.1) false).run Tryz.prog W = .ok (.agg #[.int .i64 g.2.1, .int .i64 g.2.2.1, .int .i64 g.2.2.2.1, .int .i64 g.2.2.2.2]) W) := fun W hW => hW.lookU hcz hgm hgn
 have HWl : Hid (∀ W, Calls Tryz.prog 81 #[agU (addSu e.1 g.2 e.2.2.2.2.2)] W fun r w' => r = .returned (.bool false) ∧ Below W.heap.size W w') := fun W => hu ▸ well_any _ W
 have HSs : Hid (∀ W, Below w.heap.size w W → Bs W s) := fun W hb => hs.below hb
 have c3 := hE.at.c3
 obtain ⟨_, _, p2, _⟩ := hB1.cells
 have p4 := hT.book.cells.2.2.2.2.1
 obtain ⟨t0, t1, t2, t3, t4, t5, t6, t7, t8, t9, t10, t11, t12, t13⟩ := hT.ent.at; (try simp only at t0 t1 t2 t3 t4 t5 t6 t7 t8 t9 t10 t11 t12 t13)
 have HT : Hid (Tw _ _ _ _ _ _ _ _ _ _) := hT
 have HC1 : Hid (Calls Tryz.prog 77 _ _ _) := hC1
 have HV : Hid (w.heap.size ≤ V5.drew.heap.size) := hbV.size
 generalize hHN : heldN e.1 l.2 e.2.2.2.2.2 = hd at *
 generalize hON : ofL (stkL e b.2.2) e.2.2.1.1 = od at *
 clear kb1 kb5 hbV hb1 hB1 hE h hs hz hT hC1 hnum hsum hheld hheld2 hlm hgm hl hg hid hgn he h1 h2 hc n5 hcz
 obtain ⟨ak, ⟨agc, agp⟩, ⟨ali, alc, alu, alk⟩, ⟨afz, afr, afb⟩, ⟨atz, atr, atb⟩, an⟩ := e
 obtain ⟨⟨lli, llc, llu, llk⟩, lh⟩ := l
 generalize hSN : addSu ak g.2 an = su at *
 obtain ⟨⟨ggc, ggp⟩, g1, g2, g3, g4⟩ := g
 obtain ⟨s1, s2, s3, s4⟩ := su
 unfold agE celE agU at *
 simp only at *
 go_enter Tryz.func54, Tryz.ntmps54
 go_wp2_with (at_lookup; refine wpL_ask rfl _ _ 94 rfl x.l _ _ rfl rfl hq ?_)
 go_region_held3 (fun w' => w'.cell? ⟨x.p, 4, none⟩ = some (.pointer (some ⟨ps, 0, none⟩)) ∧ w'.cell? ⟨w.heap.size, 0, none⟩ = some (.string ak) ∧ w'.cell? ⟨w.heap.size, 1, none⟩ = some (.string agc) ∧ w'.cell? ⟨w.heap.size, 2, none⟩ = some (.int .i64 agp) ∧ w'.cell? ⟨w.heap.size, 3, none⟩ = some (.string ali) ∧ w'.cell? ⟨w.heap.size, 4, none⟩ = some (.string alc) ∧ w'.cell? ⟨w.heap.size, 5, none⟩ = some (.int .i64 alu) ∧ w'.cell? ⟨w.heap.size, 6, none⟩ = some (.int .i64 alk) ∧ w'.cell? ⟨w.heap.size, 7, none⟩ = some (.string afz) ∧ w'.cell? ⟨w.heap.size, 8, none⟩ = some (.int .i64 afr) ∧ w'.cell? ⟨w.heap.size, 9, none⟩ = some (.int .i64 afb) ∧ w'.cell? ⟨w.heap.size, 10, none⟩ = some (.string atz) ∧ w'.cell? ⟨w.heap.size, 11, none⟩ = some (.int .i64 atr) ∧ w'.cell? ⟨w.heap.size, 12, none⟩ = some (.int .i64 atb) ∧ w'.cell? ⟨w.heap.size, 13, none⟩ = some (.int .i64 an)) (go_keep) (first | (go_at_call 77; refine HC1.out.mono ?_; rintro r w2 ⟨p', b', rfl, hns⟩; have h2 := HT.out.go hns.below; have p4b := h2.book.cells.2.2.2.2.1; obtain ⟨v0, v1, v2, v3, v4, v5, v6, v7, v8, v9, v10, v11, v12, v13⟩ := h2.ent.at; (try simp only at v0 v1 v2 v3 v4 v5 v6 v7 v8 v9 v10 v11 v12 v13); have HN2 : Hid (NewSt _ _ _ _ _) := hns; have HT2 : Hid (Tw _ _ _ _ _ _ _ _ _ _) := h2; clear hns h2))
 go_wp2
 have h2d := HT2.out.drew
 have p3 := h2d.book.cells.2.2.2.1
 have lh2 := HLH.out _ (Or.inr h2d.book)
 obtain ⟨u0, u1, u2, u3, u4, u5, u6, u7, u8, u9, u10, u11, u12, u13⟩ := h2d.ent.at; (try simp only at u0 u1 u2 u3 u4 u5 u6 u7 u8 u9 u10 u11 u12 u13)
 have H2d : Hid (Tw _ _ _ _ _ _ _ _ _ _) := h2d
 clear h2d
 go_region_held3 (fun w' => w'.cell? ⟨x.p, 3, none⟩ = some (.map (some x.h)) ∧ (Instr.lookup 95 (.map (some x.h)) (.string ali) false).run Tryz.prog w' = .ok (.int .i64 lh) w' ∧ w'.cell? ⟨w.heap.size, 0, none⟩ = some (.string ak) ∧ w'.cell? ⟨w.heap.size, 1, none⟩ = some (.string agc) ∧ w'.cell? ⟨w.heap.size, 2, none⟩ = some (.int .i64 agp) ∧ w'.cell? ⟨w.heap.size, 3, none⟩ = some (.string ali) ∧ w'.cell? ⟨w.heap.size, 4, none⟩ = some (.string alc) ∧ w'.cell? ⟨w.heap.size, 5, none⟩ = some (.int .i64 alu) ∧ w'.cell? ⟨w.heap.size, 6, none⟩ = some (.int .i64 alk) ∧ w'.cell? ⟨w.heap.size, 7, none⟩ = some (.string afz) ∧ w'.cell? ⟨w.heap.size, 8, none⟩ = some (.int .i64 afr) ∧ w'.cell? ⟨w.heap.size, 9, none⟩ = some (.int .i64 afb) ∧ w'.cell? ⟨w.heap.size, 10, none⟩ = some (.string atz) ∧ w'.cell? ⟨w.heap.size, 11, none⟩ = some (.int .i64 atr) ∧ w'.cell? ⟨w.heap.size, 12, none⟩ = some (.int .i64 atb) ∧ w'.cell? ⟨w.heap.size, 13, none⟩ = some (.int .i64 an)) (go_keep) (first | (go_at_call 78; refine (HH.out _).mono ?_; rintro r w3 ⟨rfl, hb3⟩; have HN3 : Hid (NewSt _ _ _ _ _) := (HN2.out.later (Below.refl _ _).drew).later hb3; have h3 := H2d.out.go hb3; have p3b := h3.book.cells.2.2.2.1; have lh3 := HLH.out _ (Or.inr h3.book); obtain ⟨y0, y1, y2, y3, y4, y5, y6, y7, y8, y9, y10, y11, y12, y13⟩ := h3.ent.at; (try simp only at y0 y1 y2 y3 y4 y5 y6 y7 y8 y9 y10 y11 y12 y13); have HT3 : Hid (Tw _ _ _ _ _ _ _ _ _ _) := h3; clear hb3 h3))
 go_wp2_with (go_at_call 79; refine (HO.out _ _ _ HN3.out.st).mono ?_; rintro r w4 ⟨rfl, hb4⟩; have hs4 := (HSs.out _ (HT3.out.go hb4).below).five.short; have HN4 : Hid (NewSt _ _ _ _ _) := HN3.out.later hb4; have HT4 : Hid (Tw _ _ _ _ _ _ _ _ _ _) := HT3.out.go hb4; clear hb4)
 have h4d := HT4.out.drew
 have p1 := h4d.book.cells.2.1
 have lc4 := h4d.code
 have lu4 := HLU.out _ h4d.book
 (try simp only at lc4)
 obtain ⟨z0, z1, z2, z3, z4, z5, z6, z7, z8, z9, z10, z11, z12, z13⟩ := h4d.ent.at; (try simp only at z0 z1 z2 z3 z4 z5 z6 z7 z8 z9 z10 z11 z12 z13)
 have hbA : Below w4.drew.heap.size w4.drew (w4.drew.alloc (.cells #[.int .i64 0, .int .i64 0, .int .i64 0, .int .i64 0] 150)) := (Below.refl _ _).alloc (Nat.le_refl _) _
 have nA := heap_alloc_new w4.drew (.cells #[.int .i64 0, .int .i64 0, .int .i64 0, .int .i64 0] 150)
 obtain ⟨A1, eA⟩ : ∃ A1, w4.drew.alloc (.cells #[.int .i64 0, .int .i64 0, .int .i64 0, .int .i64 0] 150) = A1 := ⟨_, rfl⟩
 rw [eA] at hbA nA
 have hA := h4d.go hbA
 have p1A := hA.book.cells.2.1
 have lcA := hA.code
 have luA := HLU.out _ hA.book
 (try simp only at lcA)
 obtain ⟨q0, q1, q2, q3, q4, q5, q6, q7, q8, q9, q10, q11, q12, q13⟩ := hA.ent.at; (try simp only at q0 q1 q2 q3 q4 q5 q6 q7 q8 q9 q10 q11 q12 q13)
 have H4d : Hid (Tw _ _ _ _ _ _ _ _ _ _) := h4d
 have HA : Hid (Tw _ _ _ _ _ _ _ _ _ _) := hA
 have HnA : Hid (A1.heap[w4.heap.size]? = some (.cells #[.int .i64 0, .int .i64 0, .int .i64 0, .int .i64 0] 150 (0, 0))) := nA
 have HNd : Hid (NewSt _ w4.drew _ _ _) := HN4.out.later (Below.refl _ _).drew
 have HNA : Hid (NewSt _ A1 _ _ _) := (HN4.out.later (Below.refl _ _).drew).later hbA
 have HUA : Hid (Calls Tryz.prog 80 _ A1 _) := HU.out A1
 have HUB : Hid (Calls Tryz.prog 80 _ w4.drew _) := HU.out w4.drew
 have HWn : Hid (w.heap.size ≤ w4.heap.size) := h4d.below.size
 have HWm : Hid (V5.drew.heap.size ≤ w4.heap.size) := HN4.out.below.size
 clear h4d hA hbA nA
 go_region_held3 (fun w' => w'.cell? ⟨x.p, 1, none⟩ = some (.map (some x.u)) ∧ w'.cell? ⟨W.heap.size, 1, none⟩ = some (.string llc) ∧ (Instr.lookup 93 (.map (some x.u)) (.string llc) false).run Tryz.prog w' = .ok (.agg #[.int .i64 g1, .int .i64 g2, .int .i64 g3, .int .i64 g4]) w' ∧ w'.cell? ⟨w.heap.size, 0, none⟩ = some (.string ak) ∧ w'.cell? ⟨w.heap.size, 1, none⟩ = some (.string agc) ∧ w'.cell? ⟨w.heap.size, 2, none⟩ = some (.int .i64 agp) ∧ w'.cell? ⟨w.heap.size, 3, none⟩ = some (.string ali) ∧ w'.cell? ⟨w.heap.size, 4, none⟩ = some (.string alc) ∧ w'.cell? ⟨w.heap.size, 5, none⟩ = some (.int .i64 alu) ∧ w'.cell? ⟨w.heap.size, 6, none⟩ = some (.int .i64 alk) ∧ w'.cell? ⟨w.heap.size, 7, none⟩ = some (.string afz) ∧ w'.cell? ⟨w.heap.size, 8, none⟩ = some (.int .i64 afr) ∧ w'.cell? ⟨w.heap.size, 9, none⟩ = some (.int .i64 afb) ∧ w'.cell? ⟨w.heap.size, 10, none⟩ = some (.string atz) ∧ w'.cell? ⟨w.heap.size, 11, none⟩ = some (.int .i64 atr) ∧ w'.cell? ⟨w.heap.size, 12, none⟩ = some (.int .i64 atb) ∧ w'.cell? ⟨w.heap.size, 13, none⟩ = some (.int .i64 an)) (go_keep) (first | (go_at_call 80; refine HUA.out.mono ?_; rintro r w5 ⟨rfl, hb5⟩; have nA5 := (hb5.block _ (Array.getElem?_eq_some_iff.1 HnA.out).1).trans HnA.out; obtain ⟨T2, T3, T4, T5, f2, f3, f4, f5, ⟨j1, j2, j3, j4, j5⟩, ⟨j6, j7⟩, ⟨j8, j9⟩, ⟨j10, j11⟩, n6, fo⟩ := sets4 nA5 (.int .i64 s1) (.int .i64 s2) (.int .i64 s3) (.int .i64 s4); have h5 := HA.out.go hb5; have h55 := h5.turn fo HWn.out nA5; have fap := h5.book.cells.2.1; have fac := h5.code; (try simp only at fac); have fal := HLU.out _ h5.book; obtain ⟨fa0, fa1, fa2, fa3, fa4, fa5, fa6, fa7, fa8, fa9, fa10, fa11, fa12, fa13⟩ := h5.ent.at; (try simp only at fa0 fa1 fa2 fa3 fa4 fa5 fa6 fa7 fa8 fa9 fa10 fa11 fa12 fa13); have fbp := h55.book.cells.2.1; have fbc := h55.code; (try simp only at fbc); have fbl := HLU.out _ h55.book; obtain ⟨fb0, fb1, fb2, fb3, fb4, fb5, fb6, fb7, fb8, fb9, fb10, fb11, fb12, fb13⟩ := h55.ent.at; (try simp only at fb0 fb1 fb2 fb3 fb4 fb5 fb6 fb7 fb8 fb9 fb10 fb11 fb12 fb13); have HT5 : Hid (Tw _ T5 _ _ _ _ _ _ _ _) := h55; have HN5 : Hid (NewSt _ T5 _ _ _) := (HNA.out.later hb5).other fo HWm.out nA5; have H6 : Hid (T5.heap[w4.heap.size]? = _) := n6; clear fo n6 hb5 nA5 h5 h55) | (go_at_call 80; refine HUB.out.mono ?_; rintro r w5 ⟨rfl, hb5⟩; obtain ⟨T1, T2, T3, T4, T5, f1, f2, f3, f4, f5, ⟨j1, j2, j3, j4, j5⟩, ⟨j6, j7⟩, ⟨j8, j9⟩, ⟨j10, j11⟩, n6, jb1, jb5⟩ := boxed4 w5 (.int .i64 0) (.int .i64 0) (.int .i64 0) (.int .i64 0) (.int .i64 s1) (.int .i64 s2) (.int .i64 s3) (.int .i64 s4) 150; have h5 := H4d.out.go hb5; have h51 := h5.go jb1; have h55 := h5.go jb5; have fap := h5.book.cells.2.1; have fac := h5.code; (try simp only at fac); have fal := HLU.out _ h5.book; obtain ⟨fa0, fa1, fa2, fa3, fa4, fa5, fa6, fa7, fa8, fa9, fa10, fa11, fa12, fa13⟩ := h5.ent.at; (try simp only at fa0 fa1 fa2 fa3 fa4 fa5 fa6 fa7 fa8 fa9 fa10 fa11 fa12 fa13); have fbp := h51.book.cells.2.1; have fbc := h51.code; (try simp only at fbc); have fbl := HLU.out _ h51.book; obtain ⟨fb0, fb1, fb2, fb3, fb4, fb5, fb6, fb7, fb8, fb9, fb10, fb11, fb12, fb13⟩ := h51.ent.at; (try simp only at fb0 fb1 fb2 fb3 fb4 fb5 fb6 fb7 fb8 fb9 fb10 fb11 fb12 fb13); have fcp := h55.book.cells.2.1; have fcc := h55.code; (try simp only at fcc); have fcl := HLU.out _ h55.book; obtain ⟨fc0, fc1, fc2, fc3, fc4, fc5, fc6, fc7, fc8, fc9, fc10, fc11, fc12, fc13⟩ := h55.ent.at; (try simp only at fc0 fc1 fc2 fc3 fc4 fc5 fc6 fc7 fc8 fc9 fc10 fc11 fc12 fc13); have HT5 : Hid (Tw _ T5 _ _ _ _ _ _ _ _) := h55; have HN5 : Hid (NewSt _ T5 _ _ _) := (HNd.out.later hb5).later jb5; have H6 : Hid (T5.heap[w5.heap.size]? = _) := n6; clear jb1 jb5 n6 hb5 h5 h51 h55))
 all_goals
  obtain ⟨m0, m1, m2, m3⟩ := cells4 H6.out
  go_wp2_with (go_at_call 81; refine (HWl.out _).mono ?_; rintro r w6 ⟨rfl, hb6⟩; have hs6 := (HSs.out _ (HT5.out.go hb6).below).five.two.bound; have HT6 : Hid (Tw _ _ _ _ _ _ _ _ _ _) := HT5.out.go hb6; clear hb6)
  go_ret
  exact ⟨rfl, HT6.out.fin_⟩
theorem turn_ok (w : World) (s : Nat → Addr) (B : Nat) (x : Bl) (b : Bk) (e : En) (h : IsBk w B x b) (hz : SzE e) (hs : Bs w s) (k i : Nat) (l : Lh) (g : Gs) (hl : b.2.1[k]? = some l) (hid : nameL l = e.2.2.1.1) (hg : b.1[i]? = some g) (hgn : nameG g = l.1.2.1) (he : entErr e = 0) (h1 : e.1 ≠ kGoods) (h2 : e.1 ≠ kLot) (hc : stkE e b.2.2 = 0) (hh : 0 ≤ heldN e.1 l.2 e.2.2.2.2.2) (ho : heldN e.1 l.2 e.2.2.2.2.2 ≤ ofL (stkL e b.2.2) e.2.2.1.1) (hu : okSu (addSu e.1 g.2 e.2.2.2.2.2) = true) :
  Calls Tryz.prog 54 #[.pointer (some ⟨x.p, 0, none⟩), agE e] w fun r w' => r = .returned (errP s (0)) ∧ IsBk w' B x (pieceB b e k l i g) ∧ Off x.all w w' := by
 obtain ⟨ps, bs, h⟩ := h
 have hE := BlkE.new w e
 have hb1 : Below w.heap.size w (w.alloc (celE e)) := (Below.refl _ w).alloc (Nat.le_refl _) _
 obtain ⟨W, hW⟩ : ∃ W, w.alloc (celE e) = W := ⟨_, rfl⟩
 rw [hW] at hE hb1
 have hB1 := h.all hb1
 have hlm := List.mem_of_getElem? hl
 have hgm := List.mem_of_getElem? hg
 have hq := hB1.askL_yes hz.li hlm hid
 obtain ⟨V1, V2, V3, V4, V5, e1, e2, e3, e4, e5, ⟨k1, k2, k3, k4, k5⟩, ⟨k6, k7⟩, ⟨k8, k9⟩, ⟨k10, k11⟩, n5, kb1, kb5⟩ := boxed4 W (.string ⟨#[]⟩) (.string ⟨#[]⟩) (.int .i64 0) (.int .i64 0) (.string l.1.1) (.string l.1.2.1) (.int .i64 l.1.2.2.1) (.int .i64 l.1.2.2.2) 46
 have hbV : Below w.heap.size w V5 := hb1.trans (kb5.mono hb1.size)
 have hT : Tw w V5.drew B x ps bs b e W.heap.size l.1 := Tw.drew ⟨hbV, h.all hbV, hE.below kb5, n5, hb1.size⟩
 have hC1 := stockAfter_any V5.drew s ps bs b.2.2 e hT.book.S hz (hs.below hT.below).five he h1 h2
 have hnum := piece_num he h1 h2
 have hsum := h.ok.wf.sums g hgm
 have hheld := h.ok.wf.held l hlm
 have hheld2 : l.2 ≤ 1099511627776 := Int.le_trans hheld.2 (h.ok.wf.st.most _)
 rw [hc, errP_zero] at hC1
 have HH : Hid (∀ W, Calls Tryz.prog 78 #[.int .i64 l.2, agE e] W fun r w' => r = .returned (.int .i64 (heldN e.1 l.2 e.2.2.2.2.2)) ∧ Below W.heap.size W w') := fun W => heldAfter_any l.2 e W ⟨hheld.1, hheld2⟩ hnum
 have HLH : Hid (∀ W, Tw w W B x ps bs b e W.heap.size l.1 ∨ BkAt W B x ps bs b → (Instr.lookup 95 (.map (some x.h)) (.string e.2.2.1.1) false).run Tryz.prog W = .ok (.int .i64 l.2) W) := fun W hW => (hW.elim Tw.book id).lookH hz.li hlm hid
 have HO : Hid (∀ W p' b', IsStock W p' b' (stkL e b.2.2) → Calls Tryz.prog 79 #[.pointer (some ⟨p', 0, none⟩), .string e.2.2.1.1] W fun r w' => r = .returned (.int .i64 (ofL (stkL e b.2.2) e.2.2.1.1)) ∧ Below W.heap.size W w') := fun W p' b' hi => of_any e.2.2.1.1 W p' b' (stkL e b.2.2) hi
 have hcz : l.1.2.1.size ≤ maxLen := by
  obtain ⟨kl, hkl⟩ := h.G.keys _ (List.mem_map.2 ⟨g, hgm, rfl⟩)
  have hss : g.1.1.size ≤ maxLen := by
   simp only [entG] at hkl
   exact keyS_size hkl
  rw [← hgn]; exact hss
 have HU : Hid (∀ W, Calls Tryz.prog 80 #[agU g.2, agE e] W fun r w' => r = .returned (agU (addSu e.1 g.2 e.2.2.2.2.2)) ∧ Below W.heap.size W w') := fun W => sumsAfter_any g.2 e W hsum hnum
 have HLU : Hid (∀ W, BkAt W B x ps bs b → (Instr.lookup 93 (.map (some x.u)) (.string l.1.2.1) false).run Tryz.prog W = .ok (.agg #[.int .i64 g.2.1, .int .i64 g.2.2.1, .int .i64 g.2.2.2.1, .int .i64 g.2.2.2.2]) W) := fun W hW => hW.lookU hcz hgm hgn
 have HWl : Hid (∀ W, Calls Tryz.prog 81 #[agU (addSu e.1 g.2 e.2.2.2.2.2)] W fun r w' => r = .returned (.bool true) ∧ Below W.heap.size W w') := fun W => hu ▸ well_any _ W
 have HL : Hid (∀ W w0 p' b', Tw w W B x ps bs b e w0 l.1 → ∀ w9, NewSt w9 W p' b' (stkL e b.2.2) → w.heap.size ≤ w9.heap.size → _) := fun W w0 p' b' ht w9 hn hw => ht.last h hn hw hz hl hid hg hgn hcz (by have := hnum.1; omega) (by unfold pieceE; rw [if_pos hc, if_neg (by omega), if_pos hu])
 have HSs : Hid (∀ W, Below w.heap.size w W → Bs W s) := fun W hb => hs.below hb
 have c3 := hE.at.c3
 obtain ⟨_, _, p2, _⟩ := hB1.cells
 have p4 := hT.book.cells.2.2.2.2.1
 obtain ⟨t0, t1, t2, t3, t4, t5, t6, t7, t8, t9, t10, t11, t12, t13⟩ := hT.ent.at; (try simp only at t0 t1 t2 t3 t4 t5 t6 t7 t8 t9 t10 t11 t12 t13)
 have HT : Hid (Tw _ _ _ _ _ _ _ _ _ _) := hT
 have HC1 : Hid (Calls Tryz.prog 77 _ _ _) := hC1
 have HV : Hid (w.heap.size ≤ V5.drew.heap.size) := hbV.size
 generalize hHN : heldN e.1 l.2 e.2.2.2.2.2 = hd at *
 generalize hON : ofL (stkL e b.2.2) e.2.2.1.1 = od at *
 clear kb1 kb5 hbV hb1 hB1 hE h hs hz hT hC1 hnum hsum hheld hheld2 hlm hgm hl hg hid hgn he h1 h2 hc n5 hcz
 obtain ⟨ak, ⟨agc, agp⟩, ⟨ali, alc, alu, alk⟩, ⟨afz, afr, afb⟩, ⟨atz, atr, atb⟩, an⟩ := e
 obtain ⟨⟨lli, llc, llu, llk⟩, lh⟩ := l
 generalize hSN : addSu ak g.2 an = su at *
 obtain ⟨⟨ggc, ggp⟩, g1, g2, g3, g4⟩ := g
 obtain ⟨s1, s2, s3, s4⟩ := su
 unfold agE celE agU at *
 simp only at *
 go_enter Tryz.func54, Tryz.ntmps54
 go_wp2_with (at_lookup; refine wpL_ask rfl _ _ 94 rfl x.l _ _ rfl rfl hq ?_)
 go_region_held3 (fun w' => w'.cell? ⟨x.p, 4, none⟩ = some (.pointer (some ⟨ps, 0, none⟩)) ∧ w'.cell? ⟨w.heap.size, 0, none⟩ = some (.string ak) ∧ w'.cell? ⟨w.heap.size, 1, none⟩ = some (.string agc) ∧ w'.cell? ⟨w.heap.size, 2, none⟩ = some (.int .i64 agp) ∧ w'.cell? ⟨w.heap.size, 3, none⟩ = some (.string ali) ∧ w'.cell? ⟨w.heap.size, 4, none⟩ = some (.string alc) ∧ w'.cell? ⟨w.heap.size, 5, none⟩ = some (.int .i64 alu) ∧ w'.cell? ⟨w.heap.size, 6, none⟩ = some (.int .i64 alk) ∧ w'.cell? ⟨w.heap.size, 7, none⟩ = some (.string afz) ∧ w'.cell? ⟨w.heap.size, 8, none⟩ = some (.int .i64 afr) ∧ w'.cell? ⟨w.heap.size, 9, none⟩ = some (.int .i64 afb) ∧ w'.cell? ⟨w.heap.size, 10, none⟩ = some (.string atz) ∧ w'.cell? ⟨w.heap.size, 11, none⟩ = some (.int .i64 atr) ∧ w'.cell? ⟨w.heap.size, 12, none⟩ = some (.int .i64 atb) ∧ w'.cell? ⟨w.heap.size, 13, none⟩ = some (.int .i64 an)) (go_keep) (first | (go_at_call 77; refine HC1.out.mono ?_; rintro r w2 ⟨p', b', rfl, hns⟩; have h2 := HT.out.go hns.below; have p4b := h2.book.cells.2.2.2.2.1; obtain ⟨v0, v1, v2, v3, v4, v5, v6, v7, v8, v9, v10, v11, v12, v13⟩ := h2.ent.at; (try simp only at v0 v1 v2 v3 v4 v5 v6 v7 v8 v9 v10 v11 v12 v13); have HN2 : Hid (NewSt _ _ _ _ _) := hns; have HT2 : Hid (Tw _ _ _ _ _ _ _ _ _ _) := h2; clear hns h2))
 go_wp2
 have h2d := HT2.out.drew
 have p3 := h2d.book.cells.2.2.2.1
 have lh2 := HLH.out _ (Or.inr h2d.book)
 obtain ⟨u0, u1, u2, u3, u4, u5, u6, u7, u8, u9, u10, u11, u12, u13⟩ := h2d.ent.at; (try simp only at u0 u1 u2 u3 u4 u5 u6 u7 u8 u9 u10 u11 u12 u13)
 have H2d : Hid (Tw _ _ _ _ _ _ _ _ _ _) := h2d
 clear h2d
 go_region_held3 (fun w' => w'.cell? ⟨x.p, 3, none⟩ = some (.map (some x.h)) ∧ (Instr.lookup 95 (.map (some x.h)) (.string ali) false).run Tryz.prog w' = .ok (.int .i64 lh) w' ∧ w'.cell? ⟨w.heap.size, 0, none⟩ = some (.string ak) ∧ w'.cell? ⟨w.heap.size, 1, none⟩ = some (.string agc) ∧ w'.cell? ⟨w.heap.size, 2, none⟩ = some (.int .i64 agp) ∧ w'.cell? ⟨w.heap.size, 3, none⟩ = some (.string ali) ∧ w'.cell? ⟨w.heap.size, 4, none⟩ = some (.string alc) ∧ w'.cell? ⟨w.heap.size, 5, none⟩ = some (.int .i64 alu) ∧ w'.cell? ⟨w.heap.size, 6, none⟩ = some (.int .i64 alk) ∧ w'.cell? ⟨w.heap.size, 7, none⟩ = some (.string afz) ∧ w'.cell? ⟨w.heap.size, 8, none⟩ = some (.int .i64 afr) ∧ w'.cell? ⟨w.heap.size, 9, none⟩ = some (.int .i64 afb) ∧ w'.cell? ⟨w.heap.size, 10, none⟩ = some (.string atz) ∧ w'.cell? ⟨w.heap.size, 11, none⟩ = some (.int .i64 atr) ∧ w'.cell? ⟨w.heap.size, 12, none⟩ = some (.int .i64 atb) ∧ w'.cell? ⟨w.heap.size, 13, none⟩ = some (.int .i64 an)) (go_keep) (first | (go_at_call 78; refine (HH.out _).mono ?_; rintro r w3 ⟨rfl, hb3⟩; have HN3 : Hid (NewSt _ _ _ _ _) := (HN2.out.later (Below.refl _ _).drew).later hb3; have h3 := H2d.out.go hb3; have p3b := h3.book.cells.2.2.2.1; have lh3 := HLH.out _ (Or.inr h3.book); obtain ⟨y0, y1, y2, y3, y4, y5, y6, y7, y8, y9, y10, y11, y12, y13⟩ := h3.ent.at; (try simp only at y0 y1 y2 y3 y4 y5 y6 y7 y8 y9 y10 y11 y12 y13); have HT3 : Hid (Tw _ _ _ _ _ _ _ _ _ _) := h3; clear hb3 h3))
 go_wp2_with (go_at_call 79; refine (HO.out _ _ _ HN3.out.st).mono ?_; rintro r w4 ⟨rfl, hb4⟩; have hs4 := (HSs.out _ (HT3.out.go hb4).below).five.short; have HN4 : Hid (NewSt _ _ _ _ _) := HN3.out.later hb4; have HT4 : Hid (Tw _ _ _ _ _ _ _ _ _ _) := HT3.out.go hb4; clear hb4)
 have h4d := HT4.out.drew
 have p1 := h4d.book.cells.2.1
 have lc4 := h4d.code
 have lu4 := HLU.out _ h4d.book
 (try simp only at lc4)
 obtain ⟨z0, z1, z2, z3, z4, z5, z6, z7, z8, z9, z10, z11, z12, z13⟩ := h4d.ent.at; (try simp only at z0 z1 z2 z3 z4 z5 z6 z7 z8 z9 z10 z11 z12 z13)
 have hbA : Below w4.drew.heap.size w4.drew (w4.drew.alloc (.cells #[.int .i64 0, .int .i64 0, .int .i64 0, .int .i64 0] 150)) := (Below.refl _ _).alloc (Nat.le_refl _) _
 have nA := heap_alloc_new w4.drew (.cells #[.int .i64 0, .int .i64 0, .int .i64 0, .int .i64 0] 150)
 obtain ⟨A1, eA⟩ : ∃ A1, w4.drew.alloc (.cells #[.int .i64 0, .int .i64 0, .int .i64 0, .int .i64 0] 150) = A1 := ⟨_, rfl⟩
 rw [eA] at hbA nA
 have hA := h4d.go hbA
 have p1A := hA.book.cells.2.1
 have lcA := hA.code
 have luA := HLU.out _ hA.book
 (try simp only at lcA)
 obtain ⟨q0, q1, q2, q3, q4, q5, q6, q7, q8, q9, q10, q11, q12, q13⟩ := hA.ent.at; (try simp only at q0 q1 q2 q3 q4 q5 q6 q7 q8 q9 q10 q11 q12 q13)
 have H4d : Hid (Tw _ _ _ _ _ _ _ _ _ _) := h4d
 have HA : Hid (Tw _ _ _ _ _ _ _ _ _ _) := hA
 have HnA : Hid (A1.heap[w4.heap.size]? = some (.cells #[.int .i64 0, .int .i64 0, .int .i64 0, .int .i64 0] 150 (0, 0))) := nA
 have HNd : Hid (NewSt _ w4.drew _ _ _) := HN4.out.later (Below.refl _ _).drew
 have HNA : Hid (NewSt _ A1 _ _ _) := (HN4.out.later (Below.refl _ _).drew).later hbA
 have HUA : Hid (Calls Tryz.prog 80 _ A1 _) := HU.out A1
 have HUB : Hid (Calls Tryz.prog 80 _ w4.drew _) := HU.out w4.drew
 have HWn : Hid (w.heap.size ≤ w4.heap.size) := h4d.below.size
 have HWm : Hid (V5.drew.heap.size ≤ w4.heap.size) := HN4.out.below.size
 clear h4d hA hbA nA
 go_region_held3 (fun w' => w'.cell? ⟨x.p, 1, none⟩ = some (.map (some x.u)) ∧ w'.cell? ⟨W.heap.size, 1, none⟩ = some (.string llc) ∧ (Instr.lookup 93 (.map (some x.u)) (.string llc) false).run Tryz.prog w' = .ok (.agg #[.int .i64 g1, .int .i64 g2, .int .i64 g3, .int .i64 g4]) w' ∧ w'.cell? ⟨w.heap.size, 0, none⟩ = some (.string ak) ∧ w'.cell? ⟨w.heap.size, 1, none⟩ = some (.string agc) ∧ w'.cell? ⟨w.heap.size, 2, none⟩ = some (.int .i64 agp) ∧ w'.cell? ⟨w.heap.size, 3, none⟩ = some (.string ali) ∧ w'.cell? ⟨w.heap.size, 4, none⟩ = some (.string alc) ∧ w'.cell? ⟨w.heap.size, 5, none⟩ = some (.int .i64 alu) ∧ w'.cell? ⟨w.heap.size, 6, none⟩ = some (.int .i64 alk) ∧ w'.cell? ⟨w.heap.size, 7, none⟩ = some (.string afz) ∧ w'.cell? ⟨w.heap.size, 8, none⟩ = some (.int .i64 afr) ∧ w'.cell? ⟨w.heap.size, 9, none⟩ = some (.int .i64 afb) ∧ w'.cell? ⟨w.heap.size, 10, none⟩ = some (.string atz) ∧ w'.cell? ⟨w.heap.size, 11, none⟩ = some (.int .i64 atr) ∧ w'.cell? ⟨w.heap.size, 12, none⟩ = some (.int .i64 atb) ∧ w'.cell? ⟨w.heap.size, 13, none⟩ = some (.int .i64 an)) (go_keep) (first | (go_at_call 80; refine HUA.out.mono ?_; rintro r w5 ⟨rfl, hb5⟩; have nA5 := (hb5.block _ (Array.getElem?_eq_some_iff.1 HnA.out).1).trans HnA.out; obtain ⟨T2, T3, T4, T5, f2, f3, f4, f5, ⟨j1, j2, j3, j4, j5⟩, ⟨j6, j7⟩, ⟨j8, j9⟩, ⟨j10, j11⟩, n6, fo⟩ := sets4 nA5 (.int .i64 s1) (.int .i64 s2) (.int .i64 s3) (.int .i64 s4); have h5 := HA.out.go hb5; have h55 := h5.turn fo HWn.out nA5; have fap := h5.book.cells.2.1; have fac := h5.code; (try simp only at fac); have fal := HLU.out _ h5.book; obtain ⟨fa0, fa1, fa2, fa3, fa4, fa5, fa6, fa7, fa8, fa9, fa10, fa11, fa12, fa13⟩ := h5.ent.at; (try simp only at fa0 fa1 fa2 fa3 fa4 fa5 fa6 fa7 fa8 fa9 fa10 fa11 fa12 fa13); have fbp := h55.book.cells.2.1; have fbc := h55.code; (try simp only at fbc); have fbl := HLU.out _ h55.book; obtain ⟨fb0, fb1, fb2, fb3, fb4, fb5, fb6, fb7, fb8, fb9, fb10, fb11, fb12, fb13⟩ := h55.ent.at; (try simp only at fb0 fb1 fb2 fb3 fb4 fb5 fb6 fb7 fb8 fb9 fb10 fb11 fb12 fb13); have HT5 : Hid (Tw _ T5 _ _ _ _ _ _ _ _) := h55; have HN5 : Hid (NewSt _ T5 _ _ _) := (HNA.out.later hb5).other fo HWm.out nA5; have H6 : Hid (T5.heap[w4.heap.size]? = _) := n6; clear fo n6 hb5 nA5 h5 h55) | (go_at_call 80; refine HUB.out.mono ?_; rintro r w5 ⟨rfl, hb5⟩; obtain ⟨T1, T2, T3, T4, T5, f1, f2, f3, f4, f5, ⟨j1, j2, j3, j4, j5⟩, ⟨j6, j7⟩, ⟨j8, j9⟩, ⟨j10, j11⟩, n6, jb1, jb5⟩ := boxed4 w5 (.int .i64 0) (.int .i64 0) (.int .i64 0) (.int .i64 0) (.int .i64 s1) (.int .i64 s2) (.int .i64 s3) (.int .i64 s4) 150; have h5 := H4d.out.go hb5; have h51 := h5.go jb1; have h55 := h5.go jb5; have fap := h5.book.cells.2.1; have fac := h5.code; (try simp only at fac); have fal := HLU.out _ h5.book; obtain ⟨fa0, fa1, fa2, fa3, fa4, fa5, fa6, fa7, fa8, fa9, fa10, fa11, fa12, fa13⟩ := h5.ent.at; (try simp only at fa0 fa1 fa2 fa3 fa4 fa5 fa6 fa7 fa8 fa9 fa10 fa11 fa12 fa13); have fbp := h51.book.cells.2.1; have fbc := h51.code; (try simp only at fbc); have fbl := HLU.out _ h51.book; obtain ⟨fb0, fb1, fb2, fb3, fb4, fb5, fb6, fb7, fb8, fb9, fb10, fb11, fb12, fb13⟩ := h51.ent.at; (try simp only at fb0 fb1 fb2 fb3 fb4 fb5 fb6 fb7 fb8 fb9 fb10 fb11 fb12 fb13); have fcp := h55.book.cells.2.1; have fcc := h55.code; (try simp only at fcc); have fcl := HLU.out _ h55.book; obtain ⟨fc0, fc1, fc2, fc3, fc4, fc5, fc6, fc7, fc8, fc9, fc10, fc11, fc12, fc13⟩ := h55.ent.at; (try simp only at fc0 fc1 fc2 fc3 fc4 fc5 fc6 fc7 fc8 fc9 fc10 fc11 fc12 fc13); have HT5 : Hid (Tw _ T5 _ _ _ _ _ _ _ _) := h55; have HN5 : Hid (NewSt _ T5 _ _ _) := (HNd.out.later hb5).later jb5; have H6 : Hid (T5.heap[w5.heap.size]? = _) := n6; clear jb1 jb5 n6 hb5 h5 h51 h55))
 all_goals
  obtain ⟨m0, m1, m2, m3⟩ := cells4 H6.out
  go_wp2_with (go_at_call 81; refine (HWl.out _).mono ?_; rintro r w6 ⟨rfl, hb6⟩; have n7 := (hb6.block _ (Array.getElem?_eq_some_iff.1 H6.out).1).trans H6.out; obtain ⟨o0, o1, o2, o3⟩ := cells4 (W := w6.drew) n7; have h6 := HT5.out.go hb6; have h6d := h6.drew; obtain ⟨_, i1, _, i3, i4, i5⟩ := h6d.book.cells; have i6 := h6d.code; (try simp only at i6); obtain ⟨V, st, z, y2, y3, st', z', y4, y5, l1, l2, l3, l4, l5, lo, lp, l6, l7⟩ := HL.out _ _ _ _ h6 _ (HN5.out.later hb6) HV.out; (try simp only at l1 l2 l3 l4 l5 l6 l7); have aw := h6.book.away n7 (by decide); have al := h6.book.away h6.lot (by decide); obtain ⟨s20, s21, s22, s23⟩ := lo _ aw.1 aw.2.1 aw.2.2; obtain ⟨s30, s31, s32, s33⟩ := lo _ al.1 al.2.1 al.2.2; obtain ⟨ca0, ca1, ca2, ca3⟩ := cells4 (s20.trans n7); obtain ⟨cb0, cb1, cb2, cb3⟩ := cells4 (s21.trans n7); obtain ⟨cc0, cc1, cc2, cc3⟩ := cells4 (s22.trans n7); obtain ⟨cd0, cd1, cd2, cd3⟩ := cells4 (s23.trans n7); obtain ⟨_, ka1, _, _⟩ := cells4 (s30.trans h6.lot); obtain ⟨_, kb1, _, _⟩ := cells4 (s31.trans h6.lot); obtain ⟨_, kc1, _, _⟩ := cells4 (s32.trans h6.lot); (try simp only at ka1 kb1 kc1); obtain ⟨pa1, pa3⟩ := lp V (Or.inl rfl); obtain ⟨pb1, pb3⟩ := lp y2 (Or.inr (Or.inl rfl)); obtain ⟨pc1, pc3⟩ := lp y3 (Or.inr (Or.inr (Or.inl rfl))); have HF : Hid (IsBk _ _ _ _ ∧ Off _ _ _) := ⟨l6, l7⟩; clear hb6 h6 h6d l6 l7 n7 lo lp aw al s20 s21 s22 s23 s30 s31 s32 s33)
  go_region
  go_wp2
  go_ret
  exact ⟨rfl, HF.out⟩
theorem turn_any (w : World) (s : Nat → Addr) (B : Nat) (x : Bl) (b : Bk) (e : En) (h : IsBk w B x b) (hz : SzE e) (hs : Bs w s) (he : entErr e = 0) (h1 : e.1 ≠ kGoods) (h2 : e.1 ≠ kLot) :
  Calls Tryz.prog 54 #[.pointer (some ⟨x.p, 0, none⟩), agE e] w fun r w' => r = .returned (errP s (doB b e).2) ∧ IsBk w' B x (doB b e).1 ∧ Off x.all w w' := by
 rcases findI_cases nameL b.2.1 e.2.2.1.1 with ⟨h9, hno⟩ | ⟨k, l, hkL, hl, hid⟩
 ·rw [doB_none he h1 h2 (by omega)]
  exact turn_none w s B x b e h hz hs hno
 ·obtain ⟨g0, hg0, hg1⟩ := h.ok.wf.lots l (List.mem_of_getElem? hl)
  rcases findI_cases nameG b.1 l.1.2.1 with ⟨_, h8⟩ | ⟨i, g, hiG, hg, hgn⟩
  ·exact absurd hg1 (h8 g0 hg0)
  rw [doB_at he h1 h2 hkL hl hiG hg]
  by_cases hc : stkE e b.2.2 = 0
  ·by_cases hh : heldN e.1 l.2 e.2.2.2.2.2 < 0
   ·have ep : pieceE b e l g = 9 := by unfold pieceE; rw [if_pos hc, if_pos (Or.inl hh)]
    rw [ep, if_neg (by decide)]
    exact turn_neg w s B x b e h hz hs k i l g hl hid hg hgn he h1 h2 hc hh
   by_cases ho : ofL (stkL e b.2.2) e.2.2.1.1 < heldN e.1 l.2 e.2.2.2.2.2
   ·have ep : pieceE b e l g = 9 := by unfold pieceE; rw [if_pos hc, if_pos (Or.inr ho)]
    rw [ep, if_neg (by decide)]
    exact turn_short w s B x b e h hz hs k i l g hl hid hg hgn he h1 h2 hc (by omega) ho
   cases hu : okSu (addSu e.1 g.2 e.2.2.2.2.2) with
   | false =>
    have ep : pieceE b e l g = 2 := by unfold pieceE; rw [if_pos hc, if_neg (by omega), hu]; rfl
    rw [ep, if_neg (by decide)]
    exact turn_bound w s B x b e h hz hs k i l g hl hid hg hgn he h1 h2 hc (by omega) (by omega) hu
   | true =>
    have ep : pieceE b e l g = 0 := by unfold pieceE; rw [if_pos hc, if_neg (by omega), hu]; rfl
    rw [if_pos ep]
    exact turn_ok w s B x b e h hz hs k i l g hl hid hg hgn he h1 h2 hc (by omega) (by omega) hu
  ·have ep : pieceE b e l g = stkE e b.2.2 := by unfold pieceE; rw [if_neg hc]
   rw [ep, if_neg hc]
   exact turn_stk w s B x b e h hz hs k i l g hl hid hg hgn he h1 h2 hc
theorem bdo_err (w : World) (s : Nat → Addr) (B : Nat) (x : Bl) (b : Bk) (e : En) (h : IsBk w B x b) (hz : SzE e) (hs : Bs w s) (he : entErr e ≠ 0) :
  Calls Tryz.prog 34 #[.pointer (some ⟨x.p, 0, none⟩), agE e] w fun r w' => r = .returned (errP s (entErr e)) ∧ IsBk w' B x b ∧ Off x.all w w' := by
 have hE := BlkE.new w e
 have hb1 : Below w.heap.size w (w.alloc (celE e)) := (Below.refl _ w).alloc (Nat.le_refl _) _
 have hC := echeck_any e (w.alloc (celE e)) s hz (hs.below hb1).es
 rw [errP_pos s he] at hC ⊢
 generalize s (entErr e - 1) = ad at *
 obtain ⟨ps, bs, h⟩ := h
 obtain ⟨_, _, _, _, p4, _⟩ := (h.all hb1).cells
 obtain ⟨t0, t1, t2, t3, t4, t5, t6, t7, t8, t9, t10, t11, t12, t13⟩ := hE.at
 have HF : Hid (∀ W, Below w.heap.size w W → IsBk W B x b ∧ Off x.all w W) := fun W hb => ⟨⟨ps, bs, h.all hb⟩, Off.of_below hb⟩
 have HB : Hid (Below _ _ _) := hb1
 have HC : Hid (Calls Tryz.prog 51 _ _ _) := hC
 clear h hz hs he hE hb1 hC
 obtain ⟨ak, ⟨agc, agp⟩, ⟨ali, alc, alu, alk⟩, ⟨afz, afr, afb⟩, ⟨atz, atr, atb⟩, an⟩ := e
 unfold agE celE at *
 simp only at *
 go_enter Tryz.func34, Tryz.ntmps34
 go_wp2_with (go_at_call 51; refine HC.out.mono ?_; rintro r w1 ⟨rfl, hb2⟩)
 go_ret
 exact ⟨rfl, HF.out _ (HB.out.trans (hb2.mono HB.out.size))⟩
theorem bdo_goods (w : World) (s : Nat → Addr) (B : Nat) (x : Bl) (b : Bk) (e : En) (h : IsBk w B x b) (hz : SzE e) (hs : Bs w s) (he : entErr e = 0) (hk : e.1 = kGoods) :
  Calls Tryz.prog 34 #[.pointer (some ⟨x.p, 0, none⟩), agE e] w fun r w' => r = .returned (errP s (doB b e).2) ∧ IsBk w' B x (doB b e).1 ∧ Off x.all w w' := by
 have hE := BlkE.new w e
 have hb1 : Below w.heap.size w (w.alloc (celE e)) := (Below.refl _ w).alloc (Nat.le_refl _) _
 have hC := echeck_any e (w.alloc (celE e)) s hz (hs.below hb1).es
 rw [he, errP_zero] at hC
 have HD : Hid (∀ W, Below w.heap.size w W → Calls Tryz.prog 52 #[.pointer (some ⟨x.p, 0, none⟩), agG e.2.1] W fun r w' => r = .returned (errP s (doB b e).2) ∧ IsBk w' B x (doB b e).1 ∧ Off x.all w w') := fun W hb => by
  have := addGoods_any e.2.1 W s B x b (h.below hb) hz.gc (hs.below hb)
  refine this.mono fun r w' ⟨r1, r2, r3⟩ => ?_
  rw [doB_goods he hk]
  by_cases h0 : goodsE b e.2.1 = 0
  ·rw [if_pos h0] at r2 ⊢
   rw [h0] at r1
   exact ⟨r1, r2, (Off.of_below hb).trans r3⟩
  ·rw [if_neg h0] at r2 ⊢
   exact ⟨r1, r2, (Off.of_below hb).trans r3⟩
 obtain ⟨ps, bs, h⟩ := h
 obtain ⟨_, _, _, _, p4, _⟩ := (h.all hb1).cells
 have x1 : (e.1.toList == kGoods.data.toList) = true := same_wordR hk
 obtain ⟨t0, t1, t2, t3, t4, t5, t6, t7, t8, t9, t10, t11, t12, t13⟩ := hE.at
 have HE : Hid (BlkE _ _ _) := hE
 have HB : Hid (Below _ _ _) := hb1
 have HC : Hid (Calls Tryz.prog 51 _ _ _) := hC
 generalize doB b e = D at *
 clear h hz hs he hE hb1 hC hk
 obtain ⟨ak, ⟨agc, agp⟩, ⟨ali, alc, alu, alk⟩, ⟨afz, afr, afb⟩, ⟨atz, atr, atb⟩, an⟩ := e
 unfold agE celE agG at *
 simp only at *
 go_enter Tryz.func34, Tryz.ntmps34
 go_wp2_with (first
  | (go_at_call 51; refine HC.out.mono ?_; rintro r w1 ⟨rfl, hb2⟩; obtain ⟨u0, u1, u2, u3, u4, u5, u6, u7, u8, u9, u10, u11, u12, u13⟩ := (HE.out.below hb2).at; (try simp only at u0 u1 u2 u3 u4 u5 u6 u7 u8 u9 u10 u11 u12 u13); have hb3 : Hid (Below _ _ _) := HB.out.trans (hb2.mono HB.out.size); clear hb2)
  | (go_at_call 52; refine (HD.out _ hb3.out).mono ?_; rintro r w2 ⟨rfl, hr⟩))
 go_ret
 exact ⟨rfl, hr⟩
theorem bdo_lot (w : World) (s : Nat → Addr) (B : Nat) (x : Bl) (b : Bk) (e : En) (h : IsBk w B x b) (hz : SzE e) (hs : Bs w s) (he : entErr e = 0) (hk : e.1 = kLot) :
  Calls Tryz.prog 34 #[.pointer (some ⟨x.p, 0, none⟩), agE e] w fun r w' => r = .returned (errP s (doB b e).2) ∧ IsBk w' B x (doB b e).1 ∧ Off x.all w w' := by
 have hE := BlkE.new w e
 have hb1 : Below w.heap.size w (w.alloc (celE e)) := (Below.refl _ w).alloc (Nat.le_refl _) _
 have hC := echeck_any e (w.alloc (celE e)) s hz (hs.below hb1).es
 rw [he, errP_zero] at hC
 have HD : Hid (∀ W, Below w.heap.size w W → Calls Tryz.prog 53 #[.pointer (some ⟨x.p, 0, none⟩), agQ e.2.2.1] W fun r w' => r = .returned (errP s (doB b e).2) ∧ IsBk w' B x (doB b e).1 ∧ Off x.all w w') := fun W hb => by
  have := addLot_any e.2.2.1 W s B x b (h.below hb) hz.li hz.lc (hs.below hb)
  refine this.mono fun r w' ⟨r1, r2, r3⟩ => ?_
  rw [doB_lot he hk]
  by_cases h0 : lotBE b e.2.2.1 = 0
  ·rw [if_pos h0] at r2 ⊢
   rw [h0] at r1
   exact ⟨r1, r2, (Off.of_below hb).trans r3⟩
  ·rw [if_neg h0] at r2 ⊢
   exact ⟨r1, r2, (Off.of_below hb).trans r3⟩
 obtain ⟨ps, bs, h⟩ := h
 obtain ⟨_, _, _, _, p4, _⟩ := (h.all hb1).cells
 have x0 : (e.1.toList == kGoods.data.toList) = false := other_word (by rw [hk]; decide)
 have x1 : (e.1.toList == kLot.data.toList) = true := same_wordR hk
 obtain ⟨t0, t1, t2, t3, t4, t5, t6, t7, t8, t9, t10, t11, t12, t13⟩ := hE.at
 have HE : Hid (BlkE _ _ _) := hE
 have HB : Hid (Below _ _ _) := hb1
 have HC : Hid (Calls Tryz.prog 51 _ _ _) := hC
 generalize doB b e = D at *
 clear h hz hs he hE hb1 hC hk
 obtain ⟨ak, ⟨agc, agp⟩, ⟨ali, alc, alu, alk⟩, ⟨afz, afr, afb⟩, ⟨atz, atr, atb⟩, an⟩ := e
 unfold agE celE agQ at *
 simp only at *
 go_enter Tryz.func34, Tryz.ntmps34
 go_wp2_with (first
  | (go_at_call 51; refine HC.out.mono ?_; rintro r w1 ⟨rfl, hb2⟩; obtain ⟨u0, u1, u2, u3, u4, u5, u6, u7, u8, u9, u10, u11, u12, u13⟩ := (HE.out.below hb2).at; (try simp only at u0 u1 u2 u3 u4 u5 u6 u7 u8 u9 u10 u11 u12 u13); have hb3 : Hid (Below _ _ _) := HB.out.trans (hb2.mono HB.out.size); clear hb2)
  | (go_at_call 53; refine (HD.out _ hb3.out).mono ?_; rintro r w2 ⟨rfl, hr⟩))
 go_ret
 exact ⟨rfl, hr⟩
theorem bdo_turn (w : World) (s : Nat → Addr) (B : Nat) (x : Bl) (b : Bk) (e : En) (h : IsBk w B x b) (hz : SzE e) (hs : Bs w s) (he : entErr e = 0) (h1 : e.1 ≠ kGoods) (h2 : e.1 ≠ kLot) :
  Calls Tryz.prog 34 #[.pointer (some ⟨x.p, 0, none⟩), agE e] w fun r w' => r = .returned (errP s (doB b e).2) ∧ IsBk w' B x (doB b e).1 ∧ Off x.all w w' := by
 have hE := BlkE.new w e
 have hb1 : Below w.heap.size w (w.alloc (celE e)) := (Below.refl _ w).alloc (Nat.le_refl _) _
 have hC := echeck_any e (w.alloc (celE e)) s hz (hs.below hb1).es
 rw [he, errP_zero] at hC
 have HD : Hid (∀ W, Below w.heap.size w W → Calls Tryz.prog 54 #[.pointer (some ⟨x.p, 0, none⟩), agE e] W fun r w' => r = .returned (errP s (doB b e).2) ∧ IsBk w' B x (doB b e).1 ∧ Off x.all w w') := fun W hb =>
  (turn_any W s B x b e (h.below hb) hz (hs.below hb) he h1 h2).mono fun r w' ⟨r1, r2, r3⟩ => ⟨r1, r2, (Off.of_below hb).trans r3⟩
 obtain ⟨ps, bs, h⟩ := h
 obtain ⟨_, _, _, _, p4, _⟩ := (h.all hb1).cells
 have x0 : (e.1.toList == kGoods.data.toList) = false := other_word h1
 have x1 : (e.1.toList == kLot.data.toList) = false := other_word h2
 obtain ⟨t0, t1, t2, t3, t4, t5, t6, t7, t8, t9, t10, t11, t12, t13⟩ := hE.at
 have HE : Hid (BlkE _ _ _) := hE
 have HB : Hid (Below _ _ _) := hb1
 have HC : Hid (Calls Tryz.prog 51 _ _ _) := hC
 generalize doB b e = D at *
 clear h hz hs he hE hb1 hC h1 h2
 obtain ⟨ak, ⟨agc, agp⟩, ⟨ali, alc, alu, alk⟩, ⟨afz, afr, afb⟩, ⟨atz, atr, atb⟩, an⟩ := e
 unfold agE celE at *
 simp only at *
 go_enter Tryz.func34, Tryz.ntmps34
 go_wp2_with (first
  | (go_at_call 51; refine HC.out.mono ?_; rintro r w1 ⟨rfl, hb2⟩; obtain ⟨u0, u1, u2, u3, u4, u5, u6, u7, u8, u9, u10, u11, u12, u13⟩ := (HE.out.below hb2).at; (try simp only at u0 u1 u2 u3 u4 u5 u6 u7 u8 u9 u10 u11 u12 u13); have hb3 : Hid (Below _ _ _) := HB.out.trans (hb2.mono HB.out.size); clear hb2)
  | (go_at_call 54; refine (HD.out _ hb3.out).mono ?_; rintro r w2 ⟨rfl, hr⟩))
 go_ret
 exact ⟨rfl, hr⟩
theorem bdo_any (w : World) (s : Nat → Addr) (B : Nat) (x : Bl) (b : Bk) (e : En) (h : IsBk w B x b) (hz : SzE e) (hs : Bs w s) :
  Calls Tryz.prog 34 #[.pointer (some ⟨x.p, 0, none⟩), agE e] w fun r w' => r = .returned (errP s (doB b e).2) ∧ IsBk w' B x (doB b e).1 ∧ Off x.all w w' := by
 by_cases he : entErr e = 0
 ·by_cases h1 : e.1 = kGoods
  ·exact bdo_goods w s B x b e h hz hs he h1
  by_cases h2 : e.1 = kLot
  ·exact bdo_lot w s B x b e h hz hs he h2
  exact bdo_turn w s B x b e h hz hs he h1 h2
 ·rw [doB_err he]
  exact bdo_err w s B x b e h hz hs he
end Go.Proofs.YtpnmbomjnpheeaaGreatDoor
namespace Go.Proofs.YtpnmbomjnpheeaaGreatDoor
open Go.RowKit Go.Lib Go.Sort
theorem sets4' {W : World} {A : Nat} {a b c d : Value} {t : TypeId} (n1 : W.heap[A]? = some (.cells #[a, b, c, d] t (0, 0))) (v0 v1 v2 v3 : Value) : ∃ V2 V3 V4 V5 : World, W.setCell ⟨A, 0, none⟩ v0 = V2 ∧ V2.setCell ⟨A, 1, none⟩ v1 = V3 ∧ V3.setCell ⟨A, 2, none⟩ v2 = V4 ∧ V4.setCell ⟨A, 3, none⟩ v3 = V5 ∧
  (W.cell? ⟨A, 0, none⟩ = some a ∧ W.cell? ⟨A, 1, none⟩ = some b ∧ W.cell? ⟨A, 2, none⟩ = some c ∧ W.cell? ⟨A, 3, none⟩ = some d ∧ ∀ o, W.frozen? ⟨A, o, none⟩ = false) ∧ (V2.cell? ⟨A, 1, none⟩ = some b ∧ ∀ o, V2.frozen? ⟨A, o, none⟩ = false) ∧ (V3.cell? ⟨A, 2, none⟩ = some c ∧ ∀ o, V3.frozen? ⟨A, o, none⟩ = false) ∧ (V4.cell? ⟨A, 3, none⟩ = some d ∧ ∀ o, V4.frozen? ⟨A, o, none⟩ = false) ∧
  V5.heap[A]? = some (.cells #[v0, v1, v2, v3] t (0, 0)) ∧ Off [A] W V5 := by
 have n2 : (W.setCell ⟨A, 0, none⟩ v0).heap[A]? = some (.cells #[v0, b, c, d] t (0, 0)) := set_cell n1 0 v0 rfl
 have b2 : Off [A] W (W.setCell ⟨A, 0, none⟩ v0) := (Off.refl _ W).set (by simp) v0
 refine ⟨_, _, _, _, rfl, rfl, rfl, rfl, ?_⟩
 generalize W.setCell ⟨A, 0, none⟩ v0 = V2 at *
 have n3 : (V2.setCell ⟨A, 1, none⟩ v1).heap[A]? = some (.cells #[v0, v1, c, d] t (0, 0)) := set_cell n2 1 v1 rfl
 have b3 : Off [A] W (V2.setCell ⟨A, 1, none⟩ v1) := b2.set (by simp) v1
 generalize V2.setCell ⟨A, 1, none⟩ v1 = V3 at *
 have n4 : (V3.setCell ⟨A, 2, none⟩ v2).heap[A]? = some (.cells #[v0, v1, v2, d] t (0, 0)) := set_cell n3 2 v2 rfl
 have b4 : Off [A] W (V3.setCell ⟨A, 2, none⟩ v2) := b3.set (by simp) v2
 generalize V3.setCell ⟨A, 2, none⟩ v2 = V4 at *
 exact ⟨⟨by rw [cell_of_heap n1]; rfl, by rw [cell_of_heap n1]; rfl, by rw [cell_of_heap n1]; rfl, by rw [cell_of_heap n1]; rfl, fun o => frozen_of_heap n1 o⟩, ⟨by rw [cell_of_heap n2]; rfl, fun o => frozen_of_heap n2 o⟩, ⟨by rw [cell_of_heap n3]; rfl, fun o => frozen_of_heap n3 o⟩, ⟨by rw [cell_of_heap n4]; rfl, fun o => frozen_of_heap n4 o⟩, set_cell n4 3 v3 rfl, b4.set (by simp) v3⟩
theorem cells4' {W : World} {A : Nat} {a b c d : Value} {t : TypeId} (n1 : W.heap[A]? = some (.cells #[a, b, c, d] t (0, 0))) : W.cell? ⟨A, 0, none⟩ = some a ∧ W.cell? ⟨A, 1, none⟩ = some b ∧ W.cell? ⟨A, 2, none⟩ = some c ∧ W.cell? ⟨A, 3, none⟩ = some d := ⟨by rw [cell_of_heap n1]; rfl, by rw [cell_of_heap n1]; rfl, by rw [cell_of_heap n1]; rfl, by rw [cell_of_heap n1]; rfl⟩
section
variable {w W : World} {B : Nat} {x : Bl} {ps bs : Nat} {b : Bk}
theorem BkAt.lotAt_ (h : BkAt W B x ps bs b) {c : ByteArray} (hc : c.size ≤ maxLen) : (Instr.lookup 94 (.map (some x.l)) (.string c) true).run Tryz.prog W = .ok (.tuple #[.agg #[.string (lotAt b c).1, .string (lotAt b c).2.1, .int .i64 (lotAt b c).2.2.1, .int .i64 (lotAt b c).2.2.2], .bool (isLot b c)]) W := by
 unfold lotAt isLot
 rcases findN_cases nameL b.2.1 c with ⟨h1, h2⟩ | ⟨y, h1, h2, h3⟩
 ·rw [h1]; exact h.askL_no hc h2
 ·rw [h1]; exact h.askL_yes hc h2 h3
end
theorem blot_any (c : ByteArray) (w : World) (B : Nat) (x : Bl) (b : Bk) (h : IsBk w B x b) (hc : c.size ≤ maxLen) :
  Calls Tryz.prog 35 #[.pointer (some ⟨x.p, 0, none⟩), .string c] w fun e w' => e = .returned (.tuple #[agQ (lotAt b c), .bool (isLot b c)]) ∧ Below w.heap.size w w' := by
 have n1 := heap_alloc_new w (.cells #[.string ⟨#[]⟩, .string ⟨#[]⟩, .int .i64 0, .int .i64 0] 46)
 have b1 : Below w.heap.size w (w.alloc (.cells #[.string ⟨#[]⟩, .string ⟨#[]⟩, .int .i64 0, .int .i64 0] 46)) := (Below.refl _ w).alloc (Nat.le_refl _) _
 obtain ⟨W, hW1⟩ : ∃ W, w.alloc (.cells #[.string ⟨#[]⟩, .string ⟨#[]⟩, .int .i64 0, .int .i64 0] 46) = W := ⟨_, rfl⟩
 rw [hW1] at n1 b1
 obtain ⟨V1, V2, V3, V4, V5, e1, e2, e3, e4, e5, ⟨k1, k2, k3, k4, k5⟩, ⟨k6, k7⟩, ⟨k8, k9⟩, ⟨k10, k11⟩, n5, kb1, kb5⟩ := boxed4 W (.string ⟨#[]⟩) (.string ⟨#[]⟩) (.int .i64 0) (.int .i64 0) (.string (lotAt b c).1) (.string (lotAt b c).2.1) (.int .i64 (lotAt b c).2.2.1) (.int .i64 (lotAt b c).2.2.2) 46
 obtain ⟨g0, g1, g2, g3⟩ := cells4' n5
 obtain ⟨T2, T3, T4, T5, f2, f3, f4, f5, ⟨j1, j2, j3, j4, j5⟩, ⟨j6, j7⟩, ⟨j8, j9⟩, ⟨j10, j11⟩, n6, fo⟩ := sets4' ((kb5.block _ (Array.getElem?_eq_some_iff.1 n1).1).trans n1) (.string (lotAt b c).1) (.string (lotAt b c).2.1) (.int .i64 (lotAt b c).2.2.1) (.int .i64 (lotAt b c).2.2.2)
 obtain ⟨m0, m1, m2, m3⟩ := cells4' n6
 have hW := whole_any W B x b (h.below b1)
 obtain ⟨ps, bs, h⟩ := h
 obtain ⟨_, _, p2, _, _, _⟩ := (h.all b1).cells
 have hl := (h.all b1).lotAt_ hc
 have HW : Hid (Calls Tryz.prog 36 _ _ _) := hW
 have hb5 : Below w.heap.size w V5 := b1.trans (kb5.mono b1.size)
 have HB : Hid (Below w.heap.size w T5) := hb5.trans (fo.below hb5.size (by simp))
 unfold agQ
 generalize lotAt b c = u at *
 obtain ⟨u0, u1, u2, u3⟩ := u
 simp only at *
 clear h hW kb1 kb5 n5 n6 fo hb5 b1 n1
 go_enter Tryz.func35, Tryz.ntmps35
 go_wp2_with (first
  | (go_at_call 36; refine HW.out.mono ?_; rintro e w1 ⟨rfl, hw⟩; have hw' := hw.symm; subst hw')
  | (at_lookup; refine wpL_ask rfl _ _ 94 rfl x.l _ _ rfl rfl hl ?_))
 exact bodyPost_ret (v := .tuple #[.agg #[.string u0, .string u1, .int .i64 u2, .int .i64 u3], .bool (isLot b c)]) (by simp [results, Tryz.results35, go_sem, m0, m1, m2, m3]) rfl ⟨rfl, HB.out⟩
end Go.Proofs.YtpnmbomjnpheeaaGreatDoor
namespace Go.Proofs.YtpnmbomjnpheeaaGreatDoor
open Go.RowKit Go.Lib Go.Sort
def goodsAt (b : Bk) (c : ByteArray) : Gd := ((findN nameG b.1 c).map (·.1)).getD (⟨#[]⟩, 0)
def isGoods (b : Bk) (c : ByteArray) : Bool := (findN nameG b.1 c).isSome
theorem sets2' {W : World} {A : Nat} {a b : Value} {t : TypeId} (n1 : W.heap[A]? = some (.cells #[a, b] t (0, 0))) (v0 v1 : Value) : ∃ V2 V3 : World, W.setCell ⟨A, 0, none⟩ v0 = V2 ∧ V2.setCell ⟨A, 1, none⟩ v1 = V3 ∧
  (W.cell? ⟨A, 0, none⟩ = some a ∧ W.cell? ⟨A, 1, none⟩ = some b ∧ ∀ o, W.frozen? ⟨A, o, none⟩ = false) ∧ (V2.cell? ⟨A, 1, none⟩ = some b ∧ ∀ o, V2.frozen? ⟨A, o, none⟩ = false) ∧ V3.cell? ⟨A, 0, none⟩ = some v0 ∧ V3.cell? ⟨A, 1, none⟩ = some v1 ∧ Off [A] W V3 := by
 have n2 : (W.setCell ⟨A, 0, none⟩ v0).heap[A]? = some (.cells #[v0, b] t (0, 0)) := set_cell n1 0 v0 rfl
 have b2 : Off [A] W (W.setCell ⟨A, 0, none⟩ v0) := (Off.refl _ W).set (by simp) v0
 refine ⟨_, _, rfl, rfl, ?_⟩
 generalize W.setCell ⟨A, 0, none⟩ v0 = V2 at *
 have n3 : (V2.setCell ⟨A, 1, none⟩ v1).heap[A]? = some (.cells #[v0, v1] t (0, 0)) := set_cell n2 1 v1 rfl
 exact ⟨⟨by rw [cell_of_heap n1]; rfl, by rw [cell_of_heap n1]; rfl, fun o => frozen_of_heap n1 o⟩, ⟨by rw [cell_of_heap n2]; rfl, fun o => frozen_of_heap n2 o⟩, by rw [cell_of_heap n3]; rfl, by rw [cell_of_heap n3]; rfl, b2.set (by simp) v1⟩
theorem BkAt.goodsAt_ {W : World} {B : Nat} {x : Bl} {ps bs : Nat} {b : Bk} (h : BkAt W B x ps bs b) {c : ByteArray} (hc : c.size ≤ maxLen) : (Instr.lookup 92 (.map (some x.g)) (.string c) true).run Tryz.prog W = .ok (.tuple #[.agg #[.string (goodsAt b c).1, .int .i64 (goodsAt b c).2], .bool (isGoods b c)]) W := by
 unfold goodsAt isGoods
 rcases findN_cases nameG b.1 c with ⟨h1, h2⟩ | ⟨y, h1, h2, h3⟩
 ·rw [h1]; exact h.askG_no hc h2
 ·rw [h1]; exact h.askG_yes hc h2 h3
theorem bgoodsOf_any (c : ByteArray) (w : World) (B : Nat) (x : Bl) (b : Bk) (h : IsBk w B x b) (hc : c.size ≤ maxLen) :
  Calls Tryz.prog 17 #[.pointer (some ⟨x.p, 0, none⟩), .string c] w fun e w' => e = .returned (.tuple #[agG (goodsAt b c), .bool (isGoods b c)]) ∧ Below w.heap.size w w' := by
 have n1 := heap_alloc_new w (.cells #[.string ⟨#[]⟩, .int .i64 0] 44)
 have b1 : Below w.heap.size w (w.alloc (.cells #[.string ⟨#[]⟩, .int .i64 0] 44)) := (Below.refl _ w).alloc (Nat.le_refl _) _
 obtain ⟨W, hW1⟩ : ∃ W, w.alloc (.cells #[.string ⟨#[]⟩, .int .i64 0] 44) = W := ⟨_, rfl⟩
 rw [hW1] at n1 b1
 obtain ⟨V1, V2, V3, e1, e2, e3, ⟨k1, k2, k3⟩, ⟨k6, k7⟩, n5, kb1, _, kb5⟩ := boxed2 W (.string ⟨#[]⟩) (.int .i64 0) (.string (goodsAt b c).1) (.int .i64 (goodsAt b c).2) 44
 have g0 : V3.cell? ⟨W.heap.size, 0, none⟩ = some (.string (goodsAt b c).1) := by rw [cell_of_heap n5]; rfl
 have g1 : V3.cell? ⟨W.heap.size, 1, none⟩ = some (.int .i64 (goodsAt b c).2) := by rw [cell_of_heap n5]; rfl
 obtain ⟨T2, T3, f2, f3, ⟨j1, j2, j5⟩, ⟨j6, j7⟩, m0, m1, fo⟩ := sets2' ((kb5.block _ (Array.getElem?_eq_some_iff.1 n1).1).trans n1) (.string (goodsAt b c).1) (.int .i64 (goodsAt b c).2)
 have hW := whole_any W B x b (h.below b1)
 obtain ⟨ps, bs, h⟩ := h
 obtain ⟨p0, _, _, _, _, _⟩ := (h.all b1).cells
 have hl := (h.all b1).goodsAt_ hc
 have HW : Hid (Calls Tryz.prog 36 _ _ _) := hW
 have hb5 : Below w.heap.size w V3 := b1.trans (kb5.mono b1.size)
 have HB : Hid (Below w.heap.size w T3) := hb5.trans (fo.below hb5.size (by simp))
 unfold agG
 generalize goodsAt b c = u at *
 obtain ⟨u0, u1⟩ := u
 simp only at *
 clear h hW kb1 kb5 n5 fo hb5 b1 n1
 go_enter Tryz.func17, Tryz.ntmps17
 go_wp2_with (first
  | (go_at_call 36; refine HW.out.mono ?_; rintro e w1 ⟨rfl, hw⟩; have hw' := hw.symm; subst hw')
  | (at_lookup; refine wpL_ask rfl _ _ 92 rfl x.g _ _ rfl rfl hl ?_))
 exact bodyPost_ret (v := .tuple #[.agg #[.string u0, .int .i64 u1], .bool (isGoods b c)]) (by simp [results, Tryz.results17, go_sem, m0, m1]) rfl ⟨rfl, HB.out⟩
end Go.Proofs.YtpnmbomjnpheeaaGreatDoor
