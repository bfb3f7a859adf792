/-
 What the reference's Book.Do does where an entry is of pieces.
-/
import Derived.Test.YteomomeigbfeoaaGreatDoorJz30
import Derived.Test.YteomomeigbfeoaaGreatDoorJz29
import Derived.Deep.RegionHeld3
set_option maxRecDepth 100000
set_option maxHeartbeats 16000000
namespace Go.Proofs.YteomomeigbfeoaaGreatDoor
open Go.RowKit Go.Lib Go.Sort
theorem dp_in_err (w : World) (B q : Nat) (b : Bk) (e : En) (k i : Nat) (l : Lh) (g : Gs) (C : Int) (m : List Ln) (h : RefB w B q b) (hz : SzE e) (hw : WfB b) (he : entErr e = 0) (hk : e.1 = kIn) (hkL : findI nameL b.2.1 e.2.2.1.1 = (k : Int)) (hl : b.2.1[k]? = some l) (hiG : findI nameG b.1 l.1.2.1 = (i : Int)) (hg : b.1[i]? = some g) (hn1 : 1 ≤ e.2.2.2.2.2) (hn2 : e.2.2.2.2.2 ≤ 1099511627776) (HP : ∀ (W : World) (v : Value), encLn.Row W 0 70 v b.2.2 → Calls Tryz.prog 83 #[.agg #[v], agP e.2.2.2.2.1, .string e.2.2.1.1, .int .i64 e.2.2.2.2.2] W fun r w' => ∃ v', r = .returned (.tuple #[.agg #[v'], .int .i64 C]) ∧ encLn.Row w' 0 70 v' m ∧ Below W.heap.size W w') (hC : 0 < C) :
  Calls Tryz.prog 40 #[.pointer (some ⟨q, 0, none⟩), agE e] w fun r w' => r = .returned (.int .i64 C) ∧ RefB w' B q b ∧ Below w.heap.size w w' := by
 have hD := Dw.new h e
 have hC0 := terr_any e (w.alloc (celE e)) hz
 rw [he] at hC0
 have HL : Hid (∀ W, RefB W B q b → Calls Tryz.prog 26 #[.pointer (some ⟨q, 0, none⟩), .string e.2.2.1.1] W fun r w' => r = .returned (.int .i64 (k : Int)) ∧ w' = W) := fun W hW => hkL ▸ findL_any W B q b e.2.2.1.1 hW (by have := hw.ll; omega)
 have HF : Hid (∀ W, RefB W B q b → Calls Tryz.prog 27 #[.pointer (some ⟨q, 0, none⟩), .string l.1.2.1] W fun r w' => r = .returned (.int .i64 (i : Int)) ∧ w' = W) := fun W hW => hiG ▸ findG_any W B q b l.1.2.1 hW (by have := hw.gl; omega)
 have x0 : (e.1.toList == kIn.data.toList) = true := same_wordR hk
 have y1 : (e.1.toList == kGoods.data.toList) = false := other_word (by rw [hk]; decide)
 have y2 : (e.1.toList == kLot.data.toList) = false := other_word (by rw [hk]; decide)
 have HnG : Hid (b.1 ≠ []) := fun e9 => by rw [e9] at hg; cases hg
 have HnL : Hid (b.2.1 ≠ []) := fun e9 => by rw [e9] at hl; cases hl
 have hkn : (k : Int) < (b.2.1.length : Int) := by have := (List.getElem?_eq_some_iff.1 hl).1; omega
 have hin : (i : Int) < (b.1.length : Int) := by have := (List.getElem?_eq_some_iff.1 hg).1; omega
 obtain ⟨⟨u1, u2, u3, u4⟩, u5⟩ := hw.sums g (List.mem_of_getElem? hg)
 have u5' : (g.2.1 ≤ mostS ∧ g.2.2.1 ≤ mostS ∧ g.2.2.2.1 ≤ mostS ∧ g.2.2.2.2 ≤ mostS) := by unfold okSu at u5; simpa using u5
 obtain ⟨u6, u7, u8, u9⟩ := u5'
 obtain ⟨v1, v2⟩ := hw.held l (List.mem_of_getElem? hl)
 have v3 : l.2 ≤ 1099511627776 := Int.le_trans v2 (hw.st.most _)
 unfold mostS at *
 have HB0 : Hid (B ≤ w.heap.size) := (by obtain ⟨_, _, _, h9, _, _, _, h8⟩ := h; exact Nat.le_trans h8 (Nat.le_of_lt (Array.getElem?_eq_some_iff.1 h9).1))
 have Hl : Hid (b.2.1[k]? = some l) := hl
 have Hg : Hid (b.1[i]? = some g) := hg
 have hz63 : b.2.1.length ≤ 60 := hw.ll
 have hz64 : b.1.length ≤ 30 := hw.gl
 clear hz h hw he hk hkL hiG hl hg u5 v2
 obtain ⟨ak, ⟨agc, agp⟩, ⟨ali, alc, alu, alk⟩, ⟨afz, afr, afb⟩, ⟨atz, atr, atb⟩, an⟩ := e
 obtain ⟨⟨ggc, ggp⟩, t1, t2, t3, t4⟩ := g
 obtain ⟨⟨lli, llc, llu, llk⟩, lh⟩ := l
 unfold agE celE agP at *
 simp only at *
 have HC : Hid (Calls Tryz.prog 82 _ _ _) := hC0
 have HD : Hid (Dw _ _ _ _ _ _) := hD
 have HPP : Hid (∀ (W : World) (v : Value), _) := HP
 clear hC0 hD HP
 go_enter Tryz.func40, Tryz.ntmps40
 go_wp2_with (first
  | (go_at_call 82; refine HC.out.mono ?_; rintro r w1 ⟨rfl, hb1⟩; have h1 := HD.out.go hb1; have c0 := h1.ent.at.c0; simp only at c0; have c3 := h1.ent.at.c3; simp only at c3; obtain ⟨gG, cG, gL, cL, aS, cS, k1, k2, k3, k4, k5⟩ := h1.book.open2 HnG.out HnL.out; have j0 : w1.cell? ⟨q, 0, none⟩ = some (.slice (some ⟨gG, 0, none⟩) b.1.length cG) := (by rw [cell_of_heap k1]; rfl); have j1 : w1.cell? ⟨q, 1, none⟩ = some (.slice (some ⟨gL, 0, none⟩) b.2.1.length cL) := (by rw [cell_of_heap k1]; rfl); have j3 : w1.cell? ⟨gL, k * 5 + 1, none⟩ = some (.string llc) := ((k3.cells Hl.out).1 1 (by decide)).trans rfl; have j4 : w1.cell? ⟨gG, i * 6 + 2, none⟩ = some (.int .i64 t1) := ((k2.cells Hg.out).1 2 (by decide)).trans rfl; have j5 : w1.cell? ⟨gG, i * 6 + 3, none⟩ = some (.int .i64 t2) := ((k2.cells Hg.out).1 3 (by decide)).trans rfl; have j6 : w1.cell? ⟨gG, i * 6 + 4, none⟩ = some (.int .i64 t3) := ((k2.cells Hg.out).1 4 (by decide)).trans rfl; have j7 : w1.cell? ⟨gG, i * 6 + 5, none⟩ = some (.int .i64 t4) := ((k2.cells Hg.out).1 5 (by decide)).trans rfl; have H1 : Hid (Dw _ _ _ _ _ _) := h1; have K1 : Hid (w1.heap[q]? = _) := k1; have K2 : Hid (Enc.Row _ _ _ _ _ _) := k2; have K3 : Hid (Enc.Row _ _ _ _ _ _) := k3; have K4 : Hid (Enc.Row _ _ _ _ _ _) := k4; clear hb1 h1 k1 k2 k3 k4)
  | (go_at_call 26; refine (HL.out _ H1.out.book).mono ?_; rintro r w2 ⟨rfl, hw9⟩; have hw8 := hw9.symm; subst hw8)
  | (go_at_call 27; refine (HF.out _ H1.out.book).mono ?_; rintro r w2 ⟨rfl, hw9⟩; have hw8 := hw9.symm; subst hw8; obtain ⟨W2, W3, q2, q3, hb2, h3⟩ := H1.out.boxes K1.out K2.out K3.out K4.out k5 t1 t2 t3 t4; have d1 : W2.cell? ⟨q, 1, none⟩ = some (.slice (some ⟨gL, 0, none⟩) b.2.1.length cL) := (hb2.cell (p := ⟨q, 1, none⟩) (cell_lt j1)).trans j1; have d2 : W2.cell? ⟨q, 2, none⟩ = some (.slice aS b.2.2.length cS) := (by rw [cell_of_heap ((hb2.block q (Array.getElem?_eq_some_iff.1 K1.out).1).trans K1.out)]; rfl); have d4 : W2.cell? ⟨gL, k * 5 + 4, none⟩ = some (.int .i64 lh) := (((K3.out.below hb2).cells Hl.out).1 4 (by decide)).trans rfl; obtain ⟨⟨mq0, mq1, mq2, mqf⟩, ⟨ms0, ms1, ms2, ms3, msf⟩, mt0, mtf⟩ := h3.cells; simp only at ms0 ms1 ms2 ms3; have m0 := h3.ent.at.c0; simp only at m0; have m13 := h3.ent.at.c13; simp only at m13; have m10 := h3.ent.at.c10; simp only at m10; have m11 := h3.ent.at.c11; simp only at m11; have m12 := h3.ent.at.c12; simp only at m12; have H3 : Hid (Pw _ _ _ _ _ _ _ _ _ _ _ _ _ _ _) := h3; clear h3 hb2))
 have H3d : Hid (Pw w W3.drew _ _ _ _ _ _ _ _ _ _ _ _ _) := H3.out.go (Below.refl _ _).drew
 go_region_held3 (fun w' => w'.cell? ⟨q, 2, none⟩ = some (.slice aS b.2.2.length cS) ∧ w'.cell? ⟨w.heap.size, 10, none⟩ = some (.string atz) ∧ w'.cell? ⟨w.heap.size, 11, none⟩ = some (.int .i64 atr) ∧ w'.cell? ⟨w.heap.size, 12, none⟩ = some (.int .i64 atb) ∧ w'.cell? ⟨w.heap.size, 13, none⟩ = some (.int .i64 an)) (go_keep)
  (first | (go_at_call 83; refine (HPP.out _ _ H3d.out.S).mono ?_; rintro r w4 ⟨v4, rfl, hr4, hb4⟩; obtain ⟨a4, c4, rfl⟩ := hr4.shape; have h4 := H3d.out.go hb4; obtain ⟨⟨nq0, nq1, nq2, nqf⟩, ⟨ns0, ns1, ns2, ns3, nsf⟩, nt0, ntf⟩ := h4.cells; simp only at ns0 ns1 ns2 ns3; have n0 := h4.ent.at.c0; simp only at n0; have n13 := h4.ent.at.c13; simp only at n13; have n10 := h4.ent.at.c10; simp only at n10; have n11 := h4.ent.at.c11; simp only at n11; have n12 := h4.ent.at.c12; simp only at n12; obtain ⟨W5, q5⟩ : ∃ W5, w4.setCell ⟨W2.heap.size, 0, none⟩ (.slice a4 m.length c4) = W5 := ⟨_, rfl⟩; have h5 : Pw w W5 B q gG cG gL cL (.slice aS b.2.2.length cS) b (ak, (agc, agp), (ali, alc, alu, alk), (afz, afr, afb), (atz, atr, atb), an) w1.heap.size W2.heap.size (t1, t2, t3, t4) (.slice a4 m.length c4) := (by rw [← q5]; exact h4.setT _); have hr5 : encLn.Row W5 0 70 (.slice a4 m.length c4) m := (by rw [← q5]; exact hr4.setOther (hr4.apart h4.stk (by decide)) _); obtain ⟨⟨oq0, oq1, oq2, oqf⟩, ⟨os0, os1, os2, os3, osf⟩, ot0, otf⟩ := h5.cells; simp only at os0 os1 os2 os3; have o0 := h5.ent.at.c0; simp only at o0; have o13 := h5.ent.at.c13; simp only at o13; have o10 := h5.ent.at.c10; simp only at o10; have o11 := h5.ent.at.c11; simp only at o11; have o12 := h5.ent.at.c12; simp only at o12; have H5 : Hid (Pw _ _ _ _ _ _ _ _ _ _ _ _ _ _ _) := h5; have R5 : Hid (Enc.Row _ _ _ _ _ _) := hr5; clear h4 h5 hr4 hr5 hb4))
 obtain ⟨W6, q6⟩ : ∃ W6, W5.setCell ⟨w1.heap.size, 0, none⟩ (.int .i64 (t1 + an)) = W6 := ⟨_, rfl⟩
 have h6 : Pw w W6 B q gG cG gL cL (.slice aS b.2.2.length cS) b (ak, (agc, agp), (ali, alc, alu, alk), (afz, afr, afb), (atz, atr, atb), an) w1.heap.size W2.heap.size (t1 + an, t2, t3, t4) (.slice a4 m.length c4) := (by rw [← q6]; exact H5.out.setU 0 _ _ rfl)
 have R6 : Hid (encLn.Row W6 0 70 (.slice a4 m.length c4) m) := (by show Enc.Row _ _ _ _ _ _; rw [← q6]; exact R5.out.setOther (R5.out.apart H5.out.sums (by decide)) _)
 obtain ⟨⟨pq0, pq1, pq2, pqf⟩, ⟨ps0, ps1, ps2, ps3, psf⟩, pt0, ptf⟩ := h6.cells; simp only at ps0 ps1 ps2 ps3
 have H6 : Hid (Pw _ _ _ _ _ _ _ _ _ _ _ _ _ _ _) := h6
 clear h6
 (try go_wp2)
 go_ret
 exact ⟨rfl, H6.out.book, H6.out.below⟩
theorem dp_in_short (w : World) (B q : Nat) (b : Bk) (e : En) (k i : Nat) (l : Lh) (g : Gs) (O : Int) (m : List Ln) (h : RefB w B q b) (hz : SzE e) (hw : WfB b) (he : entErr e = 0) (hk : e.1 = kIn) (hkL : findI nameL b.2.1 e.2.2.1.1 = (k : Int)) (hl : b.2.1[k]? = some l) (hiG : findI nameG b.1 l.1.2.1 = (i : Int)) (hg : b.1[i]? = some g) (hn1 : 1 ≤ e.2.2.2.2.2) (hn2 : e.2.2.2.2.2 ≤ 1099511627776) (HP : ∀ (W : World) (v : Value), encLn.Row W 0 70 v b.2.2 → Calls Tryz.prog 83 #[.agg #[v], agP e.2.2.2.2.1, .string e.2.2.1.1, .int .i64 e.2.2.2.2.2] W fun r w' => ∃ v', r = .returned (.tuple #[.agg #[v'], .int .i64 0]) ∧ encLn.Row w' 0 70 v' m ∧ Below W.heap.size W w') (HO : ∀ (W : World) (v : Value), encLn.Row W 0 70 v m → Calls Tryz.prog 86 #[.agg #[v], .string e.2.2.1.1] W fun r w' => r = .returned (.int .i64 O) ∧ Below W.heap.size W w') (hO : O < l.2) :
  Calls Tryz.prog 40 #[.pointer (some ⟨q, 0, none⟩), agE e] w fun r w' => r = .returned (.int .i64 9) ∧ RefB w' B q b ∧ Below w.heap.size w w' := by
 have hD := Dw.new h e
 have hC0 := terr_any e (w.alloc (celE e)) hz
 rw [he] at hC0
 have HL : Hid (∀ W, RefB W B q b → Calls Tryz.prog 26 #[.pointer (some ⟨q, 0, none⟩), .string e.2.2.1.1] W fun r w' => r = .returned (.int .i64 (k : Int)) ∧ w' = W) := fun W hW => hkL ▸ findL_any W B q b e.2.2.1.1 hW (by have := hw.ll; omega)
 have HF : Hid (∀ W, RefB W B q b → Calls Tryz.prog 27 #[.pointer (some ⟨q, 0, none⟩), .string l.1.2.1] W fun r w' => r = .returned (.int .i64 (i : Int)) ∧ w' = W) := fun W hW => hiG ▸ findG_any W B q b l.1.2.1 hW (by have := hw.gl; omega)
 have x0 : (e.1.toList == kIn.data.toList) = true := same_wordR hk
 have y1 : (e.1.toList == kGoods.data.toList) = false := other_word (by rw [hk]; decide)
 have y2 : (e.1.toList == kLot.data.toList) = false := other_word (by rw [hk]; decide)
 have HnG : Hid (b.1 ≠ []) := fun e9 => by rw [e9] at hg; cases hg
 have HnL : Hid (b.2.1 ≠ []) := fun e9 => by rw [e9] at hl; cases hl
 have hkn : (k : Int) < (b.2.1.length : Int) := by have := (List.getElem?_eq_some_iff.1 hl).1; omega
 have hin : (i : Int) < (b.1.length : Int) := by have := (List.getElem?_eq_some_iff.1 hg).1; omega
 obtain ⟨⟨u1, u2, u3, u4⟩, u5⟩ := hw.sums g (List.mem_of_getElem? hg)
 have u5' : (g.2.1 ≤ mostS ∧ g.2.2.1 ≤ mostS ∧ g.2.2.2.1 ≤ mostS ∧ g.2.2.2.2 ≤ mostS) := by unfold okSu at u5; simpa using u5
 obtain ⟨u6, u7, u8, u9⟩ := u5'
 obtain ⟨v1, v2⟩ := hw.held l (List.mem_of_getElem? hl)
 have v3 : l.2 ≤ 1099511627776 := Int.le_trans v2 (hw.st.most _)
 unfold mostS at *
 have HB0 : Hid (B ≤ w.heap.size) := (by obtain ⟨_, _, _, h9, _, _, _, h8⟩ := h; exact Nat.le_trans h8 (Nat.le_of_lt (Array.getElem?_eq_some_iff.1 h9).1))
 have Hl : Hid (b.2.1[k]? = some l) := hl
 have Hg : Hid (b.1[i]? = some g) := hg
 have hz63 : b.2.1.length ≤ 60 := hw.ll
 have hz64 : b.1.length ≤ 30 := hw.gl
 clear hz h hw he hk hkL hiG hl hg u5 v2
 obtain ⟨ak, ⟨agc, agp⟩, ⟨ali, alc, alu, alk⟩, ⟨afz, afr, afb⟩, ⟨atz, atr, atb⟩, an⟩ := e
 obtain ⟨⟨ggc, ggp⟩, t1, t2, t3, t4⟩ := g
 obtain ⟨⟨lli, llc, llu, llk⟩, lh⟩ := l
 unfold agE celE agP at *
 simp only at *
 have HC : Hid (Calls Tryz.prog 82 _ _ _) := hC0
 have HD : Hid (Dw _ _ _ _ _ _) := hD
 have HPP : Hid (∀ (W : World) (v : Value), _) := HP
 have HOO : Hid (∀ (W : World) (v : Value), _) := HO
 clear hC0 hD HP HO
 go_enter Tryz.func40, Tryz.ntmps40
 go_wp2_with (first
  | (go_at_call 82; refine HC.out.mono ?_; rintro r w1 ⟨rfl, hb1⟩; have h1 := HD.out.go hb1; have c0 := h1.ent.at.c0; simp only at c0; have c3 := h1.ent.at.c3; simp only at c3; obtain ⟨gG, cG, gL, cL, aS, cS, k1, k2, k3, k4, k5⟩ := h1.book.open2 HnG.out HnL.out; have j0 : w1.cell? ⟨q, 0, none⟩ = some (.slice (some ⟨gG, 0, none⟩) b.1.length cG) := (by rw [cell_of_heap k1]; rfl); have j1 : w1.cell? ⟨q, 1, none⟩ = some (.slice (some ⟨gL, 0, none⟩) b.2.1.length cL) := (by rw [cell_of_heap k1]; rfl); have j3 : w1.cell? ⟨gL, k * 5 + 1, none⟩ = some (.string llc) := ((k3.cells Hl.out).1 1 (by decide)).trans rfl; have j4 : w1.cell? ⟨gG, i * 6 + 2, none⟩ = some (.int .i64 t1) := ((k2.cells Hg.out).1 2 (by decide)).trans rfl; have j5 : w1.cell? ⟨gG, i * 6 + 3, none⟩ = some (.int .i64 t2) := ((k2.cells Hg.out).1 3 (by decide)).trans rfl; have j6 : w1.cell? ⟨gG, i * 6 + 4, none⟩ = some (.int .i64 t3) := ((k2.cells Hg.out).1 4 (by decide)).trans rfl; have j7 : w1.cell? ⟨gG, i * 6 + 5, none⟩ = some (.int .i64 t4) := ((k2.cells Hg.out).1 5 (by decide)).trans rfl; have H1 : Hid (Dw _ _ _ _ _ _) := h1; have K1 : Hid (w1.heap[q]? = _) := k1; have K2 : Hid (Enc.Row _ _ _ _ _ _) := k2; have K3 : Hid (Enc.Row _ _ _ _ _ _) := k3; have K4 : Hid (Enc.Row _ _ _ _ _ _) := k4; clear hb1 h1 k1 k2 k3 k4)
  | (go_at_call 26; refine (HL.out _ H1.out.book).mono ?_; rintro r w2 ⟨rfl, hw9⟩; have hw8 := hw9.symm; subst hw8)
  | (go_at_call 27; refine (HF.out _ H1.out.book).mono ?_; rintro r w2 ⟨rfl, hw9⟩; have hw8 := hw9.symm; subst hw8; obtain ⟨W2, W3, q2, q3, hb2, h3⟩ := H1.out.boxes K1.out K2.out K3.out K4.out k5 t1 t2 t3 t4; have d1 : W2.cell? ⟨q, 1, none⟩ = some (.slice (some ⟨gL, 0, none⟩) b.2.1.length cL) := (hb2.cell (p := ⟨q, 1, none⟩) (cell_lt j1)).trans j1; have d2 : W2.cell? ⟨q, 2, none⟩ = some (.slice aS b.2.2.length cS) := (by rw [cell_of_heap ((hb2.block q (Array.getElem?_eq_some_iff.1 K1.out).1).trans K1.out)]; rfl); have d4 : W2.cell? ⟨gL, k * 5 + 4, none⟩ = some (.int .i64 lh) := (((K3.out.below hb2).cells Hl.out).1 4 (by decide)).trans rfl; obtain ⟨⟨mq0, mq1, mq2, mqf⟩, ⟨ms0, ms1, ms2, ms3, msf⟩, mt0, mtf⟩ := h3.cells; simp only at ms0 ms1 ms2 ms3; have m0 := h3.ent.at.c0; simp only at m0; have m13 := h3.ent.at.c13; simp only at m13; have m10 := h3.ent.at.c10; simp only at m10; have m11 := h3.ent.at.c11; simp only at m11; have m12 := h3.ent.at.c12; simp only at m12; have H3 : Hid (Pw _ _ _ _ _ _ _ _ _ _ _ _ _ _ _) := h3; clear h3 hb2))
 have H3d : Hid (Pw w W3.drew _ _ _ _ _ _ _ _ _ _ _ _ _) := H3.out.go (Below.refl _ _).drew
 go_region_held3 (fun w' => w'.cell? ⟨q, 2, none⟩ = some (.slice aS b.2.2.length cS) ∧ w'.cell? ⟨w.heap.size, 10, none⟩ = some (.string atz) ∧ w'.cell? ⟨w.heap.size, 11, none⟩ = some (.int .i64 atr) ∧ w'.cell? ⟨w.heap.size, 12, none⟩ = some (.int .i64 atb) ∧ w'.cell? ⟨w.heap.size, 13, none⟩ = some (.int .i64 an)) (go_keep)
  (first | (go_at_call 83; refine (HPP.out _ _ H3d.out.S).mono ?_; rintro r w4 ⟨v4, rfl, hr4, hb4⟩; obtain ⟨a4, c4, rfl⟩ := hr4.shape; have h4 := H3d.out.go hb4; obtain ⟨⟨nq0, nq1, nq2, nqf⟩, ⟨ns0, ns1, ns2, ns3, nsf⟩, nt0, ntf⟩ := h4.cells; simp only at ns0 ns1 ns2 ns3; have n0 := h4.ent.at.c0; simp only at n0; have n13 := h4.ent.at.c13; simp only at n13; have n10 := h4.ent.at.c10; simp only at n10; have n11 := h4.ent.at.c11; simp only at n11; have n12 := h4.ent.at.c12; simp only at n12; obtain ⟨W5, q5⟩ : ∃ W5, w4.setCell ⟨W2.heap.size, 0, none⟩ (.slice a4 m.length c4) = W5 := ⟨_, rfl⟩; have h5 : Pw w W5 B q gG cG gL cL (.slice aS b.2.2.length cS) b (ak, (agc, agp), (ali, alc, alu, alk), (afz, afr, afb), (atz, atr, atb), an) w1.heap.size W2.heap.size (t1, t2, t3, t4) (.slice a4 m.length c4) := (by rw [← q5]; exact h4.setT _); have hr5 : encLn.Row W5 0 70 (.slice a4 m.length c4) m := (by rw [← q5]; exact hr4.setOther (hr4.apart h4.stk (by decide)) _); obtain ⟨⟨oq0, oq1, oq2, oqf⟩, ⟨os0, os1, os2, os3, osf⟩, ot0, otf⟩ := h5.cells; simp only at os0 os1 os2 os3; have o0 := h5.ent.at.c0; simp only at o0; have o13 := h5.ent.at.c13; simp only at o13; have o10 := h5.ent.at.c10; simp only at o10; have o11 := h5.ent.at.c11; simp only at o11; have o12 := h5.ent.at.c12; simp only at o12; have H5 : Hid (Pw _ _ _ _ _ _ _ _ _ _ _ _ _ _ _) := h5; have R5 : Hid (Enc.Row _ _ _ _ _ _) := hr5; clear h4 h5 hr4 hr5 hb4))
 obtain ⟨W6, q6⟩ : ∃ W6, W5.setCell ⟨w1.heap.size, 0, none⟩ (.int .i64 (t1 + an)) = W6 := ⟨_, rfl⟩
 have h6 : Pw w W6 B q gG cG gL cL (.slice aS b.2.2.length cS) b (ak, (agc, agp), (ali, alc, alu, alk), (afz, afr, afb), (atz, atr, atb), an) w1.heap.size W2.heap.size (t1 + an, t2, t3, t4) (.slice a4 m.length c4) := (by rw [← q6]; exact H5.out.setU 0 _ _ rfl)
 have R6 : Hid (encLn.Row W6 0 70 (.slice a4 m.length c4) m) := (by show Enc.Row _ _ _ _ _ _; rw [← q6]; exact R5.out.setOther (R5.out.apart H5.out.sums (by decide)) _)
 obtain ⟨⟨pq0, pq1, pq2, pqf⟩, ⟨ps0, ps1, ps2, ps3, psf⟩, pt0, ptf⟩ := h6.cells; simp only at ps0 ps1 ps2 ps3
 have H6 : Hid (Pw _ _ _ _ _ _ _ _ _ _ _ _ _ _ _) := h6
 clear h6
 go_wp2_with (first | (go_at_call 86; refine (HOO.out _ _ R6.out).mono ?_; rintro r w7 ⟨rfl, hb7⟩; have h7 := H6.out.go hb7; obtain ⟨⟨rq0, rq1, rq2, rqf⟩, ⟨rs0, rs1, rs2, rs3, rsf⟩, rt0, rtf⟩ := h7.cells; simp only at rs0 rs1 rs2 rs3; have H7 : Hid (Pw _ _ _ _ _ _ _ _ _ _ _ _ _ _ _) := h7; clear h7 hb7))
 go_ret
 exact ⟨rfl, H7.out.book, H7.out.below⟩
theorem dp_in_bound (w : World) (B q : Nat) (b : Bk) (e : En) (k i : Nat) (l : Lh) (g : Gs) (O : Int) (m : List Ln) (h : RefB w B q b) (hz : SzE e) (hw : WfB b) (he : entErr e = 0) (hk : e.1 = kIn) (hkL : findI nameL b.2.1 e.2.2.1.1 = (k : Int)) (hl : b.2.1[k]? = some l) (hiG : findI nameG b.1 l.1.2.1 = (i : Int)) (hg : b.1[i]? = some g) (hn1 : 1 ≤ e.2.2.2.2.2) (hn2 : e.2.2.2.2.2 ≤ 1099511627776) (HP : ∀ (W : World) (v : Value), encLn.Row W 0 70 v b.2.2 → Calls Tryz.prog 83 #[.agg #[v], agP e.2.2.2.2.1, .string e.2.2.1.1, .int .i64 e.2.2.2.2.2] W fun r w' => ∃ v', r = .returned (.tuple #[.agg #[v'], .int .i64 0]) ∧ encLn.Row w' 0 70 v' m ∧ Below W.heap.size W w') (HO : ∀ (W : World) (v : Value), encLn.Row W 0 70 v m → Calls Tryz.prog 86 #[.agg #[v], .string e.2.2.1.1] W fun r w' => r = .returned (.int .i64 O) ∧ Below W.heap.size W w') (hO : l.2 ≤ O) (hM : mostS < g.2.1 + e.2.2.2.2.2) :
  Calls Tryz.prog 40 #[.pointer (some ⟨q, 0, none⟩), agE e] w fun r w' => r = .returned (.int .i64 2) ∧ RefB w' B q b ∧ Below w.heap.size w w' := by
 have hD := Dw.new h e
 have hC0 := terr_any e (w.alloc (celE e)) hz
 rw [he] at hC0
 have HL : Hid (∀ W, RefB W B q b → Calls Tryz.prog 26 #[.pointer (some ⟨q, 0, none⟩), .string e.2.2.1.1] W fun r w' => r = .returned (.int .i64 (k : Int)) ∧ w' = W) := fun W hW => hkL ▸ findL_any W B q b e.2.2.1.1 hW (by have := hw.ll; omega)
 have HF : Hid (∀ W, RefB W B q b → Calls Tryz.prog 27 #[.pointer (some ⟨q, 0, none⟩), .string l.1.2.1] W fun r w' => r = .returned (.int .i64 (i : Int)) ∧ w' = W) := fun W hW => hiG ▸ findG_any W B q b l.1.2.1 hW (by have := hw.gl; omega)
 have x0 : (e.1.toList == kIn.data.toList) = true := same_wordR hk
 have y1 : (e.1.toList == kGoods.data.toList) = false := other_word (by rw [hk]; decide)
 have y2 : (e.1.toList == kLot.data.toList) = false := other_word (by rw [hk]; decide)
 have HnG : Hid (b.1 ≠ []) := fun e9 => by rw [e9] at hg; cases hg
 have HnL : Hid (b.2.1 ≠ []) := fun e9 => by rw [e9] at hl; cases hl
 have hkn : (k : Int) < (b.2.1.length : Int) := by have := (List.getElem?_eq_some_iff.1 hl).1; omega
 have hin : (i : Int) < (b.1.length : Int) := by have := (List.getElem?_eq_some_iff.1 hg).1; omega
 obtain ⟨⟨u1, u2, u3, u4⟩, u5⟩ := hw.sums g (List.mem_of_getElem? hg)
 have u5' : (g.2.1 ≤ mostS ∧ g.2.2.1 ≤ mostS ∧ g.2.2.2.1 ≤ mostS ∧ g.2.2.2.2 ≤ mostS) := by unfold okSu at u5; simpa using u5
 obtain ⟨u6, u7, u8, u9⟩ := u5'
 obtain ⟨v1, v2⟩ := hw.held l (List.mem_of_getElem? hl)
 have v3 : l.2 ≤ 1099511627776 := Int.le_trans v2 (hw.st.most _)
 unfold mostS at *
 have HB0 : Hid (B ≤ w.heap.size) := (by obtain ⟨_, _, _, h9, _, _, _, h8⟩ := h; exact Nat.le_trans h8 (Nat.le_of_lt (Array.getElem?_eq_some_iff.1 h9).1))
 have Hl : Hid (b.2.1[k]? = some l) := hl
 have Hg : Hid (b.1[i]? = some g) := hg
 have hz63 : b.2.1.length ≤ 60 := hw.ll
 have hz64 : b.1.length ≤ 30 := hw.gl
 clear hz h hw he hk hkL hiG hl hg u5 v2
 obtain ⟨ak, ⟨agc, agp⟩, ⟨ali, alc, alu, alk⟩, ⟨afz, afr, afb⟩, ⟨atz, atr, atb⟩, an⟩ := e
 obtain ⟨⟨ggc, ggp⟩, t1, t2, t3, t4⟩ := g
 obtain ⟨⟨lli, llc, llu, llk⟩, lh⟩ := l
 unfold agE celE agP at *
 simp only at *
 have HC : Hid (Calls Tryz.prog 82 _ _ _) := hC0
 have HD : Hid (Dw _ _ _ _ _ _) := hD
 have HPP : Hid (∀ (W : World) (v : Value), _) := HP
 have HOO : Hid (∀ (W : World) (v : Value), _) := HO
 clear hC0 hD HP HO
 go_enter Tryz.func40, Tryz.ntmps40
 go_wp2_with (first
  | (go_at_call 82; refine HC.out.mono ?_; rintro r w1 ⟨rfl, hb1⟩; have h1 := HD.out.go hb1; have c0 := h1.ent.at.c0; simp only at c0; have c3 := h1.ent.at.c3; simp only at c3; obtain ⟨gG, cG, gL, cL, aS, cS, k1, k2, k3, k4, k5⟩ := h1.book.open2 HnG.out HnL.out; have j0 : w1.cell? ⟨q, 0, none⟩ = some (.slice (some ⟨gG, 0, none⟩) b.1.length cG) := (by rw [cell_of_heap k1]; rfl); have j1 : w1.cell? ⟨q, 1, none⟩ = some (.slice (some ⟨gL, 0, none⟩) b.2.1.length cL) := (by rw [cell_of_heap k1]; rfl); have j3 : w1.cell? ⟨gL, k * 5 + 1, none⟩ = some (.string llc) := ((k3.cells Hl.out).1 1 (by decide)).trans rfl; have j4 : w1.cell? ⟨gG, i * 6 + 2, none⟩ = some (.int .i64 t1) := ((k2.cells Hg.out).1 2 (by decide)).trans rfl; have j5 : w1.cell? ⟨gG, i * 6 + 3, none⟩ = some (.int .i64 t2) := ((k2.cells Hg.out).1 3 (by decide)).trans rfl; have j6 : w1.cell? ⟨gG, i * 6 + 4, none⟩ = some (.int .i64 t3) := ((k2.cells Hg.out).1 4 (by decide)).trans rfl; have j7 : w1.cell? ⟨gG, i * 6 + 5, none⟩ = some (.int .i64 t4) := ((k2.cells Hg.out).1 5 (by decide)).trans rfl; have H1 : Hid (Dw _ _ _ _ _ _) := h1; have K1 : Hid (w1.heap[q]? = _) := k1; have K2 : Hid (Enc.Row _ _ _ _ _ _) := k2; have K3 : Hid (Enc.Row _ _ _ _ _ _) := k3; have K4 : Hid (Enc.Row _ _ _ _ _ _) := k4; clear hb1 h1 k1 k2 k3 k4)
  | (go_at_call 26; refine (HL.out _ H1.out.book).mono ?_; rintro r w2 ⟨rfl, hw9⟩; have hw8 := hw9.symm; subst hw8)
  | (go_at_call 27; refine (HF.out _ H1.out.book).mono ?_; rintro r w2 ⟨rfl, hw9⟩; have hw8 := hw9.symm; subst hw8; obtain ⟨W2, W3, q2, q3, hb2, h3⟩ := H1.out.boxes K1.out K2.out K3.out K4.out k5 t1 t2 t3 t4; have d1 : W2.cell? ⟨q, 1, none⟩ = some (.slice (some ⟨gL, 0, none⟩) b.2.1.length cL) := (hb2.cell (p := ⟨q, 1, none⟩) (cell_lt j1)).trans j1; have d2 : W2.cell? ⟨q, 2, none⟩ = some (.slice aS b.2.2.length cS) := (by rw [cell_of_heap ((hb2.block q (Array.getElem?_eq_some_iff.1 K1.out).1).trans K1.out)]; rfl); have d4 : W2.cell? ⟨gL, k * 5 + 4, none⟩ = some (.int .i64 lh) := (((K3.out.below hb2).cells Hl.out).1 4 (by decide)).trans rfl; obtain ⟨⟨mq0, mq1, mq2, mqf⟩, ⟨ms0, ms1, ms2, ms3, msf⟩, mt0, mtf⟩ := h3.cells; simp only at ms0 ms1 ms2 ms3; have m0 := h3.ent.at.c0; simp only at m0; have m13 := h3.ent.at.c13; simp only at m13; have m10 := h3.ent.at.c10; simp only at m10; have m11 := h3.ent.at.c11; simp only at m11; have m12 := h3.ent.at.c12; simp only at m12; have H3 : Hid (Pw _ _ _ _ _ _ _ _ _ _ _ _ _ _ _) := h3; clear h3 hb2))
 have H3d : Hid (Pw w W3.drew _ _ _ _ _ _ _ _ _ _ _ _ _) := H3.out.go (Below.refl _ _).drew
 go_region_held3 (fun w' => w'.cell? ⟨q, 2, none⟩ = some (.slice aS b.2.2.length cS) ∧ w'.cell? ⟨w.heap.size, 10, none⟩ = some (.string atz) ∧ w'.cell? ⟨w.heap.size, 11, none⟩ = some (.int .i64 atr) ∧ w'.cell? ⟨w.heap.size, 12, none⟩ = some (.int .i64 atb) ∧ w'.cell? ⟨w.heap.size, 13, none⟩ = some (.int .i64 an)) (go_keep)
  (first | (go_at_call 83; refine (HPP.out _ _ H3d.out.S).mono ?_; rintro r w4 ⟨v4, rfl, hr4, hb4⟩; obtain ⟨a4, c4, rfl⟩ := hr4.shape; have h4 := H3d.out.go hb4; obtain ⟨⟨nq0, nq1, nq2, nqf⟩, ⟨ns0, ns1, ns2, ns3, nsf⟩, nt0, ntf⟩ := h4.cells; simp only at ns0 ns1 ns2 ns3; have n0 := h4.ent.at.c0; simp only at n0; have n13 := h4.ent.at.c13; simp only at n13; have n10 := h4.ent.at.c10; simp only at n10; have n11 := h4.ent.at.c11; simp only at n11; have n12 := h4.ent.at.c12; simp only at n12; obtain ⟨W5, q5⟩ : ∃ W5, w4.setCell ⟨W2.heap.size, 0, none⟩ (.slice a4 m.length c4) = W5 := ⟨_, rfl⟩; have h5 : Pw w W5 B q gG cG gL cL (.slice aS b.2.2.length cS) b (ak, (agc, agp), (ali, alc, alu, alk), (afz, afr, afb), (atz, atr, atb), an) w1.heap.size W2.heap.size (t1, t2, t3, t4) (.slice a4 m.length c4) := (by rw [← q5]; exact h4.setT _); have hr5 : encLn.Row W5 0 70 (.slice a4 m.length c4) m := (by rw [← q5]; exact hr4.setOther (hr4.apart h4.stk (by decide)) _); obtain ⟨⟨oq0, oq1, oq2, oqf⟩, ⟨os0, os1, os2, os3, osf⟩, ot0, otf⟩ := h5.cells; simp only at os0 os1 os2 os3; have o0 := h5.ent.at.c0; simp only at o0; have o13 := h5.ent.at.c13; simp only at o13; have o10 := h5.ent.at.c10; simp only at o10; have o11 := h5.ent.at.c11; simp only at o11; have o12 := h5.ent.at.c12; simp only at o12; have H5 : Hid (Pw _ _ _ _ _ _ _ _ _ _ _ _ _ _ _) := h5; have R5 : Hid (Enc.Row _ _ _ _ _ _) := hr5; clear h4 h5 hr4 hr5 hb4))
 obtain ⟨W6, q6⟩ : ∃ W6, W5.setCell ⟨w1.heap.size, 0, none⟩ (.int .i64 (t1 + an)) = W6 := ⟨_, rfl⟩
 have h6 : Pw w W6 B q gG cG gL cL (.slice aS b.2.2.length cS) b (ak, (agc, agp), (ali, alc, alu, alk), (afz, afr, afb), (atz, atr, atb), an) w1.heap.size W2.heap.size (t1 + an, t2, t3, t4) (.slice a4 m.length c4) := (by rw [← q6]; exact H5.out.setU 0 _ _ rfl)
 have R6 : Hid (encLn.Row W6 0 70 (.slice a4 m.length c4) m) := (by show Enc.Row _ _ _ _ _ _; rw [← q6]; exact R5.out.setOther (R5.out.apart H5.out.sums (by decide)) _)
 obtain ⟨⟨pq0, pq1, pq2, pqf⟩, ⟨ps0, ps1, ps2, ps3, psf⟩, pt0, ptf⟩ := h6.cells; simp only at ps0 ps1 ps2 ps3
 have H6 : Hid (Pw _ _ _ _ _ _ _ _ _ _ _ _ _ _ _) := h6
 clear h6
 go_wp2_with (first | (go_at_call 86; refine (HOO.out _ _ R6.out).mono ?_; rintro r w7 ⟨rfl, hb7⟩; have h7 := H6.out.go hb7; obtain ⟨⟨rq0, rq1, rq2, rqf⟩, ⟨rs0, rs1, rs2, rs3, rsf⟩, rt0, rtf⟩ := h7.cells; simp only at rs0 rs1 rs2 rs3; have H7 : Hid (Pw _ _ _ _ _ _ _ _ _ _ _ _ _ _ _) := h7; clear h7 hb7))
 go_ret
 exact ⟨rfl, H7.out.book, H7.out.below⟩
theorem dp_in_ok (w : World) (B q : Nat) (b : Bk) (e : En) (k i : Nat) (l : Lh) (g : Gs) (O : Int) (m : List Ln) (h : RefB w B q b) (hz : SzE e) (hw : WfB b) (he : entErr e = 0) (hk : e.1 = kIn) (hkL : findI nameL b.2.1 e.2.2.1.1 = (k : Int)) (hl : b.2.1[k]? = some l) (hiG : findI nameG b.1 l.1.2.1 = (i : Int)) (hg : b.1[i]? = some g) (hn1 : 1 ≤ e.2.2.2.2.2) (hn2 : e.2.2.2.2.2 ≤ 1099511627776) (HP : ∀ (W : World) (v : Value), encLn.Row W 0 70 v b.2.2 → Calls Tryz.prog 83 #[.agg #[v], agP e.2.2.2.2.1, .string e.2.2.1.1, .int .i64 e.2.2.2.2.2] W fun r w' => ∃ v', r = .returned (.tuple #[.agg #[v'], .int .i64 0]) ∧ encLn.Row w' 0 70 v' m ∧ Below W.heap.size W w') (HO : ∀ (W : World) (v : Value), encLn.Row W 0 70 v m → Calls Tryz.prog 86 #[.agg #[v], .string e.2.2.1.1] W fun r w' => r = .returned (.int .i64 O) ∧ Below W.heap.size W w') (hO : l.2 ≤ O) (hP : 0 ≤ l.2) (hM : g.2.1 + e.2.2.2.2.2 ≤ mostS) :
  Calls Tryz.prog 40 #[.pointer (some ⟨q, 0, none⟩), agE e] w fun r w' => r = .returned (.int .i64 0) ∧ RefB w' B q (b.1.set i (g.1, g.2.1 + e.2.2.2.2.2, g.2.2.1, g.2.2.2.1, g.2.2.2.2), b.2.1.set k (l.1, l.2), m) ∧ Turn B w w' := by
 have hD := Dw.new h e
 have hC0 := terr_any e (w.alloc (celE e)) hz
 rw [he] at hC0
 have HL : Hid (∀ W, RefB W B q b → Calls Tryz.prog 26 #[.pointer (some ⟨q, 0, none⟩), .string e.2.2.1.1] W fun r w' => r = .returned (.int .i64 (k : Int)) ∧ w' = W) := fun W hW => hkL ▸ findL_any W B q b e.2.2.1.1 hW (by have := hw.ll; omega)
 have HF : Hid (∀ W, RefB W B q b → Calls Tryz.prog 27 #[.pointer (some ⟨q, 0, none⟩), .string l.1.2.1] W fun r w' => r = .returned (.int .i64 (i : Int)) ∧ w' = W) := fun W hW => hiG ▸ findG_any W B q b l.1.2.1 hW (by have := hw.gl; omega)
 have x0 : (e.1.toList == kIn.data.toList) = true := same_wordR hk
 have y1 : (e.1.toList == kGoods.data.toList) = false := other_word (by rw [hk]; decide)
 have y2 : (e.1.toList == kLot.data.toList) = false := other_word (by rw [hk]; decide)
 have HnG : Hid (b.1 ≠ []) := fun e9 => by rw [e9] at hg; cases hg
 have HnL : Hid (b.2.1 ≠ []) := fun e9 => by rw [e9] at hl; cases hl
 have hkn : (k : Int) < (b.2.1.length : Int) := by have := (List.getElem?_eq_some_iff.1 hl).1; omega
 have hin : (i : Int) < (b.1.length : Int) := by have := (List.getElem?_eq_some_iff.1 hg).1; omega
 obtain ⟨⟨u1, u2, u3, u4⟩, u5⟩ := hw.sums g (List.mem_of_getElem? hg)
 have u5' : (g.2.1 ≤ mostS ∧ g.2.2.1 ≤ mostS ∧ g.2.2.2.1 ≤ mostS ∧ g.2.2.2.2 ≤ mostS) := by unfold okSu at u5; simpa using u5
 obtain ⟨u6, u7, u8, u9⟩ := u5'
 obtain ⟨v1, v2⟩ := hw.held l (List.mem_of_getElem? hl)
 have v3 : l.2 ≤ 1099511627776 := Int.le_trans v2 (hw.st.most _)
 unfold mostS at *
 have HB0 : Hid (B ≤ w.heap.size) := (by obtain ⟨_, _, _, h9, _, _, _, h8⟩ := h; exact Nat.le_trans h8 (Nat.le_of_lt (Array.getElem?_eq_some_iff.1 h9).1))
 have Hl : Hid (b.2.1[k]? = some l) := hl
 have Hg : Hid (b.1[i]? = some g) := hg
 have hz63 : b.2.1.length ≤ 60 := hw.ll
 have hz64 : b.1.length ≤ 30 := hw.gl
 clear hz h hw he hk hkL hiG hl hg u5 v2
 obtain ⟨ak, ⟨agc, agp⟩, ⟨ali, alc, alu, alk⟩, ⟨afz, afr, afb⟩, ⟨atz, atr, atb⟩, an⟩ := e
 obtain ⟨⟨ggc, ggp⟩, t1, t2, t3, t4⟩ := g
 obtain ⟨⟨lli, llc, llu, llk⟩, lh⟩ := l
 unfold agE celE agP at *
 simp only at *
 have HC : Hid (Calls Tryz.prog 82 _ _ _) := hC0
 have HD : Hid (Dw _ _ _ _ _ _) := hD
 have HPP : Hid (∀ (W : World) (v : Value), _) := HP
 have HOO : Hid (∀ (W : World) (v : Value), _) := HO
 clear hC0 hD HP HO
 go_enter Tryz.func40, Tryz.ntmps40
 go_wp2_with (first
  | (go_at_call 82; refine HC.out.mono ?_; rintro r w1 ⟨rfl, hb1⟩; have h1 := HD.out.go hb1; have c0 := h1.ent.at.c0; simp only at c0; have c3 := h1.ent.at.c3; simp only at c3; obtain ⟨gG, cG, gL, cL, aS, cS, k1, k2, k3, k4, k5⟩ := h1.book.open2 HnG.out HnL.out; have j0 : w1.cell? ⟨q, 0, none⟩ = some (.slice (some ⟨gG, 0, none⟩) b.1.length cG) := (by rw [cell_of_heap k1]; rfl); have j1 : w1.cell? ⟨q, 1, none⟩ = some (.slice (some ⟨gL, 0, none⟩) b.2.1.length cL) := (by rw [cell_of_heap k1]; rfl); have j3 : w1.cell? ⟨gL, k * 5 + 1, none⟩ = some (.string llc) := ((k3.cells Hl.out).1 1 (by decide)).trans rfl; have j4 : w1.cell? ⟨gG, i * 6 + 2, none⟩ = some (.int .i64 t1) := ((k2.cells Hg.out).1 2 (by decide)).trans rfl; have j5 : w1.cell? ⟨gG, i * 6 + 3, none⟩ = some (.int .i64 t2) := ((k2.cells Hg.out).1 3 (by decide)).trans rfl; have j6 : w1.cell? ⟨gG, i * 6 + 4, none⟩ = some (.int .i64 t3) := ((k2.cells Hg.out).1 4 (by decide)).trans rfl; have j7 : w1.cell? ⟨gG, i * 6 + 5, none⟩ = some (.int .i64 t4) := ((k2.cells Hg.out).1 5 (by decide)).trans rfl; have H1 : Hid (Dw _ _ _ _ _ _) := h1; have K1 : Hid (w1.heap[q]? = _) := k1; have K2 : Hid (Enc.Row _ _ _ _ _ _) := k2; have K3 : Hid (Enc.Row _ _ _ _ _ _) := k3; have K4 : Hid (Enc.Row _ _ _ _ _ _) := k4; clear hb1 h1 k1 k2 k3 k4)
  | (go_at_call 26; refine (HL.out _ H1.out.book).mono ?_; rintro r w2 ⟨rfl, hw9⟩; have hw8 := hw9.symm; subst hw8)
  | (go_at_call 27; refine (HF.out _ H1.out.book).mono ?_; rintro r w2 ⟨rfl, hw9⟩; have hw8 := hw9.symm; subst hw8; obtain ⟨W2, W3, q2, q3, hb2, h3⟩ := H1.out.boxes K1.out K2.out K3.out K4.out k5 t1 t2 t3 t4; have d1 : W2.cell? ⟨q, 1, none⟩ = some (.slice (some ⟨gL, 0, none⟩) b.2.1.length cL) := (hb2.cell (p := ⟨q, 1, none⟩) (cell_lt j1)).trans j1; have d2 : W2.cell? ⟨q, 2, none⟩ = some (.slice aS b.2.2.length cS) := (by rw [cell_of_heap ((hb2.block q (Array.getElem?_eq_some_iff.1 K1.out).1).trans K1.out)]; rfl); have d4 : W2.cell? ⟨gL, k * 5 + 4, none⟩ = some (.int .i64 lh) := (((K3.out.below hb2).cells Hl.out).1 4 (by decide)).trans rfl; obtain ⟨⟨mq0, mq1, mq2, mqf⟩, ⟨ms0, ms1, ms2, ms3, msf⟩, mt0, mtf⟩ := h3.cells; simp only at ms0 ms1 ms2 ms3; have m0 := h3.ent.at.c0; simp only at m0; have m13 := h3.ent.at.c13; simp only at m13; have m10 := h3.ent.at.c10; simp only at m10; have m11 := h3.ent.at.c11; simp only at m11; have m12 := h3.ent.at.c12; simp only at m12; have H3 : Hid (Pw _ _ _ _ _ _ _ _ _ _ _ _ _ _ _) := h3; clear h3 hb2))
 have H3d : Hid (Pw w W3.drew _ _ _ _ _ _ _ _ _ _ _ _ _) := H3.out.go (Below.refl _ _).drew
 go_region_held3 (fun w' => w'.cell? ⟨q, 2, none⟩ = some (.slice aS b.2.2.length cS) ∧ w'.cell? ⟨w.heap.size, 10, none⟩ = some (.string atz) ∧ w'.cell? ⟨w.heap.size, 11, none⟩ = some (.int .i64 atr) ∧ w'.cell? ⟨w.heap.size, 12, none⟩ = some (.int .i64 atb) ∧ w'.cell? ⟨w.heap.size, 13, none⟩ = some (.int .i64 an)) (go_keep)
  (first | (go_at_call 83; refine (HPP.out _ _ H3d.out.S).mono ?_; rintro r w4 ⟨v4, rfl, hr4, hb4⟩; obtain ⟨a4, c4, rfl⟩ := hr4.shape; have h4 := H3d.out.go hb4; obtain ⟨⟨nq0, nq1, nq2, nqf⟩, ⟨ns0, ns1, ns2, ns3, nsf⟩, nt0, ntf⟩ := h4.cells; simp only at ns0 ns1 ns2 ns3; have n0 := h4.ent.at.c0; simp only at n0; have n13 := h4.ent.at.c13; simp only at n13; have n10 := h4.ent.at.c10; simp only at n10; have n11 := h4.ent.at.c11; simp only at n11; have n12 := h4.ent.at.c12; simp only at n12; obtain ⟨W5, q5⟩ : ∃ W5, w4.setCell ⟨W2.heap.size, 0, none⟩ (.slice a4 m.length c4) = W5 := ⟨_, rfl⟩; have h5 : Pw w W5 B q gG cG gL cL (.slice aS b.2.2.length cS) b (ak, (agc, agp), (ali, alc, alu, alk), (afz, afr, afb), (atz, atr, atb), an) w1.heap.size W2.heap.size (t1, t2, t3, t4) (.slice a4 m.length c4) := (by rw [← q5]; exact h4.setT _); have hr5 : encLn.Row W5 0 70 (.slice a4 m.length c4) m := (by rw [← q5]; exact hr4.setOther (hr4.apart h4.stk (by decide)) _); obtain ⟨⟨oq0, oq1, oq2, oqf⟩, ⟨os0, os1, os2, os3, osf⟩, ot0, otf⟩ := h5.cells; simp only at os0 os1 os2 os3; have o0 := h5.ent.at.c0; simp only at o0; have o13 := h5.ent.at.c13; simp only at o13; have o10 := h5.ent.at.c10; simp only at o10; have o11 := h5.ent.at.c11; simp only at o11; have o12 := h5.ent.at.c12; simp only at o12; have H5 : Hid (Pw _ _ _ _ _ _ _ _ _ _ _ _ _ _ _) := h5; have R5 : Hid (Enc.Row _ _ _ _ _ _) := hr5; clear h4 h5 hr4 hr5 hb4))
 obtain ⟨W6, q6⟩ : ∃ W6, W5.setCell ⟨w1.heap.size, 0, none⟩ (.int .i64 (t1 + an)) = W6 := ⟨_, rfl⟩
 have h6 : Pw w W6 B q gG cG gL cL (.slice aS b.2.2.length cS) b (ak, (agc, agp), (ali, alc, alu, alk), (afz, afr, afb), (atz, atr, atb), an) w1.heap.size W2.heap.size (t1 + an, t2, t3, t4) (.slice a4 m.length c4) := (by rw [← q6]; exact H5.out.setU 0 _ _ rfl)
 have R6 : Hid (encLn.Row W6 0 70 (.slice a4 m.length c4) m) := (by show Enc.Row _ _ _ _ _ _; rw [← q6]; exact R5.out.setOther (R5.out.apart H5.out.sums (by decide)) _)
 obtain ⟨⟨pq0, pq1, pq2, pqf⟩, ⟨ps0, ps1, ps2, ps3, psf⟩, pt0, ptf⟩ := h6.cells; simp only at ps0 ps1 ps2 ps3
 have H6 : Hid (Pw _ _ _ _ _ _ _ _ _ _ _ _ _ _ _) := h6
 clear h6
 go_wp2_with (first | (go_at_call 86; refine (HOO.out _ _ R6.out).mono ?_; rintro r w7 ⟨rfl, hb7⟩; have h7 := H6.out.go hb7; obtain ⟨⟨rq0, rq1, rq2, rqf⟩, ⟨rs0, rs1, rs2, rs3, rsf⟩, rt0, rtf⟩ := h7.cells; simp only at rs0 rs1 rs2 rs3; obtain ⟨F1, F2, F3, F4, F5, F6, e1, e2, e3, e4, e5, e6, ⟨f10, f11, f12⟩, ⟨f20, ⟨f21, f22, f23, f24⟩, f25, f26⟩, ⟨f30, f31⟩, ⟨f40, f41⟩, ⟨f50, f51⟩, ⟨f60, f61, f62, f63, f64⟩, hfin, hfb⟩ := h7.fin HB0.out (R6.out.below hb7) Hl.out Hg.out (lh); simp only at e3 e4 e5 e6 f11 f21 f22 f23 f24 f25 f30 f40 f50 f61 f62 f63 f64; have HFin : Hid (RefB _ _ _ _) := hfin; have HFB : Hid (Turn _ _ _) := hfb; clear hfin hfb; have H7 : Hid (Pw _ _ _ _ _ _ _ _ _ _ _ _ _ _ _) := h7; clear h7 hb7))
 go_region_held3 (fun w' => w'.cell? ⟨q, 0, none⟩ = some (.slice (some ⟨gG, 0, none⟩) b.1.length cG) ∧ w'.cell? ⟨w1.heap.size, 0, none⟩ = some (.int .i64 (t1 + an)) ∧ w'.cell? ⟨w1.heap.size, 1, none⟩ = some (.int .i64 (t2)) ∧ w'.cell? ⟨w1.heap.size, 2, none⟩ = some (.int .i64 (t3)) ∧ w'.cell? ⟨w1.heap.size, 3, none⟩ = some (.int .i64 (t4))) (go_keep) (fail)
 all_goals
  go_wp2
  go_ret
  exact ⟨rfl, HFin.out, HFB.out⟩
end Go.Proofs.YteomomeigbfeoaaGreatDoor
