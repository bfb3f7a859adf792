/-
  What the reference's ReadEntry answers of a text of pieces that move, not well; over whatever world.
-/
import Derived.Test.YtgdhfipbbijngaaGreatDoorEzB
namespace Go.Proofs.YtgdhfipbbijngaaGreatDoor
open Go.RowKit Go.Lib Go.Sort

set_option maxRecDepth 100000 in
set_option maxHeartbeats 8000000 in
theorem re_move_few (x b0 : ByteArray) (t : List ByteArray) (n : Nat) (w : World) (hcut : Calls Tryz.prog 14 #[.string x, .int .u8 ((32 : UInt8).toNat : Int)] (w.alloc (celE zeroE)) fun e w1 => ∃ g cap, e = .returned (.slice (some ⟨g, 0, none⟩) n cap) ∧ n ≤ cap ∧ Cu w w1 g (b0 :: t)) (hpos : 0 < n) (hn : n ≠ 5) (hkd : isKd b0 = true) (hg : b0 ≠ kGoods) (hl : b0 ≠ kLot) (hF : kFrom (kd b0) = true) (hT : kTo (kd b0) = true) :
    Calls Tryz.prog 7 #[.string x] w fun e w' => e = .returned (.tuple #[.agg #[.string ⟨#[]⟩, .string ⟨#[]⟩, .int .i64 0, .string ⟨#[]⟩, .string ⟨#[]⟩, .int .i64 0, .int .i64 0, .string ⟨#[]⟩, .int .i64 0, .int .i64 0, .string ⟨#[]⟩, .int .i64 0, .int .i64 0, .int .i64 0], .int .i64 1]) ∧ Below w.heap.size w w' := by
  have hcut' := hcut
  unfold celE zeroE zeroG zeroL zeroP at hcut'
  simp only at hcut'
  have HC : Hid (Calls Tryz.prog 14 _ _ _) := hcut'
  clear hcut hcut'
  have hK := fun W => isKind_any b0 W
  simp only [hkd] at hK
  have hFr := fun W => hasFrom_any b0 W
  simp only [hF] at hFr
  have hTo := fun W => hasTo_any b0 W
  simp only [hT] at hTo
  have e1 : (b0.toList == kGoods.data.toList) = false := other_word hg
  have e2 : (b0.toList == kLot.data.toList) = false := other_word hl
  simp only at e1 e2
  clear hkd hg hl hF hT
  have hn1 : ((n : Int) == 5) = false := by simp; omega
  have hp1 : (0 : Int) < (n : Int) := by omega
  clear hn
  go_enter Tryz.func7, Tryz.ntmps7
  go_wp2_with (first
    | (go_at_call 14; refine HC.out.mono ?_; rintro e w1 ⟨g, cap, rfl, hcap, hcu⟩; have HU : Hid (Cu _ _ _ _) := hcu; have u0 := hcu.word 0 _ rfl; have ug := hcu.lt; have une : g ≠ w1.heap.size := Nat.ne_of_lt ug; clear hcu)
    | (go_at_call 15; refine (hK _).mono ?_; rintro e w2 ⟨rfl, hw⟩; have hw' := hw.symm; subst hw')
    | (go_at_call 18; refine (hFr _).mono ?_; rintro e w3 ⟨rfl, hw⟩; have h3 : Rd w w3 w1.heap.size g (b0, (⟨#[]⟩, 0), (⟨#[]⟩, ⟨#[]⟩, 0, 0), (⟨#[]⟩, 0, 0), (⟨#[]⟩, 0, 0), 0) (b0 :: t) := (by rw [hw]; exact HU.out.rd b0); clear hw; have H3 : Hid (Rd _ _ _ _ _ _) := h3; clear h3; have af := H3.out.ent.frozen; have al := H3.out.ent.lt; have aw0 := H3.out.word 0 _ rfl; have aqf := H3.out.res.frozen; have aql := H3.out.res.lt; have aqe : EntAt w3 w.heap.size (⟨#[]⟩, (⟨#[]⟩, 0), (⟨#[]⟩, ⟨#[]⟩, 0, 0), (⟨#[]⟩, 0, 0), (⟨#[]⟩, 0, 0), 0) := H3.out.res.at; obtain ⟨aq0, aq1, aq2, aq3, aq4, aq5, aq6, aq7, aq8, aq9, aq10, aq11, aq12, aq13⟩ := aqe; simp only at aq0 aq1 aq2 aq3 aq4 aq5 aq6 aq7 aq8 aq9 aq10 aq11 aq12 aq13)
    | (go_at_call 19; refine (hTo _).mono ?_; rintro e w4 ⟨rfl, hw⟩; have hw' := hw.symm; subst hw'))
  have hFF : BlkE ((((((((((((((w3.setCell ⟨w.heap.size, 0, none⟩ (.string ⟨#[]⟩)).setCell ⟨w.heap.size, 1, none⟩ (.string ⟨#[]⟩)).setCell ⟨w.heap.size, 2, none⟩ (.int .i64 0)).setCell ⟨w.heap.size, 3, none⟩ (.string ⟨#[]⟩)).setCell ⟨w.heap.size, 4, none⟩ (.string ⟨#[]⟩)).setCell ⟨w.heap.size, 5, none⟩ (.int .i64 0)).setCell ⟨w.heap.size, 6, none⟩ (.int .i64 0)).setCell ⟨w.heap.size, 7, none⟩ (.string ⟨#[]⟩)).setCell ⟨w.heap.size, 8, none⟩ (.int .i64 0)).setCell ⟨w.heap.size, 9, none⟩ (.int .i64 0)).setCell ⟨w.heap.size, 10, none⟩ (.string ⟨#[]⟩)).setCell ⟨w.heap.size, 11, none⟩ (.int .i64 0)).setCell ⟨w.heap.size, 12, none⟩ (.int .i64 0)).setCell ⟨w.heap.size, 13, none⟩ (.int .i64 0)) w.heap.size (⟨#[]⟩, (⟨#[]⟩, 0), (⟨#[]⟩, ⟨#[]⟩, 0, 0), (⟨#[]⟩, 0, 0), (⟨#[]⟩, 0, 0), 0) := BlkE.setE H3.out.res (⟨#[]⟩, (⟨#[]⟩, 0), (⟨#[]⟩, ⟨#[]⟩, 0, 0), (⟨#[]⟩, 0, 0), (⟨#[]⟩, 0, 0), 0)
  have hBF : Below w.heap.size w ((((((((((((((w3.setCell ⟨w.heap.size, 0, none⟩ (.string ⟨#[]⟩)).setCell ⟨w.heap.size, 1, none⟩ (.string ⟨#[]⟩)).setCell ⟨w.heap.size, 2, none⟩ (.int .i64 0)).setCell ⟨w.heap.size, 3, none⟩ (.string ⟨#[]⟩)).setCell ⟨w.heap.size, 4, none⟩ (.string ⟨#[]⟩)).setCell ⟨w.heap.size, 5, none⟩ (.int .i64 0)).setCell ⟨w.heap.size, 6, none⟩ (.int .i64 0)).setCell ⟨w.heap.size, 7, none⟩ (.string ⟨#[]⟩)).setCell ⟨w.heap.size, 8, none⟩ (.int .i64 0)).setCell ⟨w.heap.size, 9, none⟩ (.int .i64 0)).setCell ⟨w.heap.size, 10, none⟩ (.string ⟨#[]⟩)).setCell ⟨w.heap.size, 11, none⟩ (.int .i64 0)).setCell ⟨w.heap.size, 12, none⟩ (.int .i64 0)).setCell ⟨w.heap.size, 13, none⟩ (.int .i64 0)) := below_setE H3.out.below (Nat.le_refl _) (⟨#[]⟩, (⟨#[]⟩, 0), (⟨#[]⟩, ⟨#[]⟩, 0, 0), (⟨#[]⟩, 0, 0), (⟨#[]⟩, 0, 0), 0)
  generalize ((((((((((((((w3.setCell ⟨w.heap.size, 0, none⟩ (.string ⟨#[]⟩)).setCell ⟨w.heap.size, 1, none⟩ (.string ⟨#[]⟩)).setCell ⟨w.heap.size, 2, none⟩ (.int .i64 0)).setCell ⟨w.heap.size, 3, none⟩ (.string ⟨#[]⟩)).setCell ⟨w.heap.size, 4, none⟩ (.string ⟨#[]⟩)).setCell ⟨w.heap.size, 5, none⟩ (.int .i64 0)).setCell ⟨w.heap.size, 6, none⟩ (.int .i64 0)).setCell ⟨w.heap.size, 7, none⟩ (.string ⟨#[]⟩)).setCell ⟨w.heap.size, 8, none⟩ (.int .i64 0)).setCell ⟨w.heap.size, 9, none⟩ (.int .i64 0)).setCell ⟨w.heap.size, 10, none⟩ (.string ⟨#[]⟩)).setCell ⟨w.heap.size, 11, none⟩ (.int .i64 0)).setCell ⟨w.heap.size, 12, none⟩ (.int .i64 0)).setCell ⟨w.heap.size, 13, none⟩ (.int .i64 0)) = WF at *
  obtain ⟨f0, f1, f2, f3, f4, f5, f6, f7, f8, f9, f10, f11, f12, f13⟩ := hFF.at
  simp only at f0 f1 f2 f3 f4 f5 f6 f7 f8 f9 f10 f11 f12 f13
  have hzF := hFF.lt
  exact bodyPost_ret (v := .tuple #[.agg #[.string ⟨#[]⟩, .string ⟨#[]⟩, .int .i64 0, .string ⟨#[]⟩, .string ⟨#[]⟩, .int .i64 0, .int .i64 0, .string ⟨#[]⟩, .int .i64 0, .int .i64 0, .string ⟨#[]⟩, .int .i64 0, .int .i64 0, .int .i64 0], .int .i64 1]) (by simp [results, Tryz.results7, go_sem, f0, f1, f2, f3, f4, f5, f6, f7, f8, f9, f10, f11, f12, f13]) rfl ⟨rfl, hBF⟩
set_option maxRecDepth 100000 in
set_option maxHeartbeats 8000000 in
theorem re_move_num (x b0 b1 b2 b3 b4 : ByteArray) (v : Int) (w : World) (hcut : Calls Tryz.prog 14 #[.string x, .int .u8 ((32 : UInt8).toNat : Int)] (w.alloc (celE zeroE)) fun e w1 => ∃ g cap, e = .returned (.slice (some ⟨g, 0, none⟩) 5 cap) ∧ 5 ≤ cap ∧ Cu w w1 g [b0, b1, b2, b3, b4]) (hkd : isKd b0 = true) (hg : b0 ≠ kGoods) (hl : b0 ≠ kLot) (hF : kFrom (kd b0) = true) (hT : kTo (kd b0) = true) (hN : ∀ W, Calls Tryz.prog 16 #[.string b4, .int .i64 13] W fun e w' => e = .returned (.int .i64 v) ∧ w' = W) (hv : v < 0) :
    Calls Tryz.prog 7 #[.string x] w fun e w' => e = .returned (.tuple #[.agg #[.string ⟨#[]⟩, .string ⟨#[]⟩, .int .i64 0, .string ⟨#[]⟩, .string ⟨#[]⟩, .int .i64 0, .int .i64 0, .string ⟨#[]⟩, .int .i64 0, .int .i64 0, .string ⟨#[]⟩, .int .i64 0, .int .i64 0, .int .i64 0], .int .i64 1]) ∧ Below w.heap.size w w' := by
  have hcut' := hcut
  unfold celE zeroE zeroG zeroL zeroP at hcut'
  simp only at hcut'
  have HC : Hid (Calls Tryz.prog 14 _ _ _) := hcut'
  clear hcut hcut'
  have hK := fun W => isKind_any b0 W
  simp only [hkd] at hK
  have hFr := fun W => hasFrom_any b0 W
  simp only [hF] at hFr
  have hTo := fun W => hasTo_any b0 W
  simp only [hT] at hTo
  have e1 : (b0.toList == kGoods.data.toList) = false := other_word hg
  have e2 : (b0.toList == kLot.data.toList) = false := other_word hl
  simp only at e1 e2
  clear hkd hg hl hF hT
  go_enter Tryz.func7, Tryz.ntmps7
  go_wp2_with (first
    | (go_at_call 14; refine HC.out.mono ?_; rintro e w1 ⟨g, cap, rfl, hcap, hcu⟩; have HU : Hid (Cu _ _ _ _) := hcu; have u0 := hcu.word 0 _ rfl; have ug := hcu.lt; have une : g ≠ w1.heap.size := Nat.ne_of_lt ug; clear hcu)
    | (go_at_call 15; refine (hK _).mono ?_; rintro e w2 ⟨rfl, hw⟩; have hw' := hw.symm; subst hw')
    | (go_at_call 18; refine (hFr _).mono ?_; rintro e w3 ⟨rfl, hw⟩; have h3 : Rd w w3 w1.heap.size g (b0, (⟨#[]⟩, 0), (⟨#[]⟩, ⟨#[]⟩, 0, 0), (⟨#[]⟩, 0, 0), (⟨#[]⟩, 0, 0), 0) [b0, b1, b2, b3, b4] := (by rw [hw]; exact HU.out.rd b0); clear hw; obtain ⟨W4, W5, q4, q5, h4, h5⟩ := h3.pieces b1 v; have H3 : Hid (Rd _ _ _ _ _ _) := h3; have H4 : Hid (Rd _ _ _ _ _ _) := h4; have H5 : Hid (Rd _ _ _ _ _ _) := h5; clear h3 h4 h5; have af := H3.out.ent.frozen; have al := H3.out.ent.lt; have a3 := H3.out.ent.at.c3; simp only at a3; have aw0 := H3.out.word 0 _ rfl; have aw1 := H3.out.word 1 _ rfl; have bf := H4.out.ent.frozen; have bl := H4.out.ent.lt; have b13 := H4.out.ent.at.c13; simp only at b13; have bw4 := H4.out.word 4 _ rfl; have cf := H5.out.ent.frozen; have cl := H5.out.ent.lt; have c13 := H5.out.ent.at.c13; simp only at c13; have cqf := H5.out.res.frozen; have cql := H5.out.res.lt; have cqe : EntAt W5 w.heap.size (⟨#[]⟩, (⟨#[]⟩, 0), (⟨#[]⟩, ⟨#[]⟩, 0, 0), (⟨#[]⟩, 0, 0), (⟨#[]⟩, 0, 0), 0) := H5.out.res.at; obtain ⟨cq0, cq1, cq2, cq3, cq4, cq5, cq6, cq7, cq8, cq9, cq10, cq11, cq12, cq13⟩ := cqe; simp only at cq0 cq1 cq2 cq3 cq4 cq5 cq6 cq7 cq8 cq9 cq10 cq11 cq12 cq13)
    | (go_at_call 19; refine (hTo _).mono ?_; rintro e w4 ⟨rfl, hw⟩; have hw' := hw.symm; subst hw')
    | (go_at_call 16; refine (hN _).mono ?_; rintro e w5 ⟨rfl, hw⟩; have hw' := hw.symm; subst hw'))
  have hFF : BlkE ((((((((((((((W5.setCell ⟨w.heap.size, 0, none⟩ (.string ⟨#[]⟩)).setCell ⟨w.heap.size, 1, none⟩ (.string ⟨#[]⟩)).setCell ⟨w.heap.size, 2, none⟩ (.int .i64 0)).setCell ⟨w.heap.size, 3, none⟩ (.string ⟨#[]⟩)).setCell ⟨w.heap.size, 4, none⟩ (.string ⟨#[]⟩)).setCell ⟨w.heap.size, 5, none⟩ (.int .i64 0)).setCell ⟨w.heap.size, 6, none⟩ (.int .i64 0)).setCell ⟨w.heap.size, 7, none⟩ (.string ⟨#[]⟩)).setCell ⟨w.heap.size, 8, none⟩ (.int .i64 0)).setCell ⟨w.heap.size, 9, none⟩ (.int .i64 0)).setCell ⟨w.heap.size, 10, none⟩ (.string ⟨#[]⟩)).setCell ⟨w.heap.size, 11, none⟩ (.int .i64 0)).setCell ⟨w.heap.size, 12, none⟩ (.int .i64 0)).setCell ⟨w.heap.size, 13, none⟩ (.int .i64 0)) w.heap.size (⟨#[]⟩, (⟨#[]⟩, 0), (⟨#[]⟩, ⟨#[]⟩, 0, 0), (⟨#[]⟩, 0, 0), (⟨#[]⟩, 0, 0), 0) := BlkE.setE H5.out.res (⟨#[]⟩, (⟨#[]⟩, 0), (⟨#[]⟩, ⟨#[]⟩, 0, 0), (⟨#[]⟩, 0, 0), (⟨#[]⟩, 0, 0), 0)
  have hBF : Below w.heap.size w ((((((((((((((W5.setCell ⟨w.heap.size, 0, none⟩ (.string ⟨#[]⟩)).setCell ⟨w.heap.size, 1, none⟩ (.string ⟨#[]⟩)).setCell ⟨w.heap.size, 2, none⟩ (.int .i64 0)).setCell ⟨w.heap.size, 3, none⟩ (.string ⟨#[]⟩)).setCell ⟨w.heap.size, 4, none⟩ (.string ⟨#[]⟩)).setCell ⟨w.heap.size, 5, none⟩ (.int .i64 0)).setCell ⟨w.heap.size, 6, none⟩ (.int .i64 0)).setCell ⟨w.heap.size, 7, none⟩ (.string ⟨#[]⟩)).setCell ⟨w.heap.size, 8, none⟩ (.int .i64 0)).setCell ⟨w.heap.size, 9, none⟩ (.int .i64 0)).setCell ⟨w.heap.size, 10, none⟩ (.string ⟨#[]⟩)).setCell ⟨w.heap.size, 11, none⟩ (.int .i64 0)).setCell ⟨w.heap.size, 12, none⟩ (.int .i64 0)).setCell ⟨w.heap.size, 13, none⟩ (.int .i64 0)) := below_setE H5.out.below (Nat.le_refl _) (⟨#[]⟩, (⟨#[]⟩, 0), (⟨#[]⟩, ⟨#[]⟩, 0, 0), (⟨#[]⟩, 0, 0), (⟨#[]⟩, 0, 0), 0)
  generalize ((((((((((((((W5.setCell ⟨w.heap.size, 0, none⟩ (.string ⟨#[]⟩)).setCell ⟨w.heap.size, 1, none⟩ (.string ⟨#[]⟩)).setCell ⟨w.heap.size, 2, none⟩ (.int .i64 0)).setCell ⟨w.heap.size, 3, none⟩ (.string ⟨#[]⟩)).setCell ⟨w.heap.size, 4, none⟩ (.string ⟨#[]⟩)).setCell ⟨w.heap.size, 5, none⟩ (.int .i64 0)).setCell ⟨w.heap.size, 6, none⟩ (.int .i64 0)).setCell ⟨w.heap.size, 7, none⟩ (.string ⟨#[]⟩)).setCell ⟨w.heap.size, 8, none⟩ (.int .i64 0)).setCell ⟨w.heap.size, 9, none⟩ (.int .i64 0)).setCell ⟨w.heap.size, 10, none⟩ (.string ⟨#[]⟩)).setCell ⟨w.heap.size, 11, none⟩ (.int .i64 0)).setCell ⟨w.heap.size, 12, none⟩ (.int .i64 0)).setCell ⟨w.heap.size, 13, none⟩ (.int .i64 0)) = WF at *
  obtain ⟨f0, f1, f2, f3, f4, f5, f6, f7, f8, f9, f10, f11, f12, f13⟩ := hFF.at
  simp only at f0 f1 f2 f3 f4 f5 f6 f7 f8 f9 f10 f11 f12 f13
  have hzF := hFF.lt
  exact bodyPost_ret (v := .tuple #[.agg #[.string ⟨#[]⟩, .string ⟨#[]⟩, .int .i64 0, .string ⟨#[]⟩, .string ⟨#[]⟩, .int .i64 0, .int .i64 0, .string ⟨#[]⟩, .int .i64 0, .int .i64 0, .string ⟨#[]⟩, .int .i64 0, .int .i64 0, .int .i64 0], .int .i64 1]) (by simp [results, Tryz.results7, go_sem, f0, f1, f2, f3, f4, f5, f6, f7, f8, f9, f10, f11, f12, f13]) rfl ⟨rfl, hBF⟩
set_option maxRecDepth 100000 in
set_option maxHeartbeats 8000000 in
theorem re_move_pf (x b0 b1 b2 b3 b4 : ByteArray) (v : Int) (fz : ByteArray) (fr fb : Int) (E : Int) (w : World) (hcut : Calls Tryz.prog 14 #[.string x, .int .u8 ((32 : UInt8).toNat : Int)] (w.alloc (celE zeroE)) fun e w1 => ∃ g cap, e = .returned (.slice (some ⟨g, 0, none⟩) 5 cap) ∧ 5 ≤ cap ∧ Cu w w1 g [b0, b1, b2, b3, b4]) (hkd : isKd b0 = true) (hg : b0 ≠ kGoods) (hl : b0 ≠ kLot) (hF : kFrom (kd b0) = true) (hT : kTo (kd b0) = true) (hN : ∀ W, Calls Tryz.prog 16 #[.string b4, .int .i64 13] W fun e w' => e = .returned (.int .i64 v) ∧ w' = W) (hv : 0 ≤ v) (hPF : ∀ W, Calls Tryz.prog 20 #[.string b2] W fun e w' => e = .returned (.tuple #[.agg #[.string fz, .int .i64 fr, .int .i64 fb], .int .i64 E]) ∧ Below W.heap.size W w') (hE : 0 < E) :
    Calls Tryz.prog 7 #[.string x] w fun e w' => e = .returned (.tuple #[.agg #[.string ⟨#[]⟩, .string ⟨#[]⟩, .int .i64 0, .string ⟨#[]⟩, .string ⟨#[]⟩, .int .i64 0, .int .i64 0, .string ⟨#[]⟩, .int .i64 0, .int .i64 0, .string ⟨#[]⟩, .int .i64 0, .int .i64 0, .int .i64 0], .int .i64 E]) ∧ Below w.heap.size w w' := by
  have hcut' := hcut
  unfold celE zeroE zeroG zeroL zeroP at hcut'
  simp only at hcut'
  have HC : Hid (Calls Tryz.prog 14 _ _ _) := hcut'
  clear hcut hcut'
  have hK := fun W => isKind_any b0 W
  simp only [hkd] at hK
  have hFr := fun W => hasFrom_any b0 W
  simp only [hF] at hFr
  have hTo := fun W => hasTo_any b0 W
  simp only [hT] at hTo
  have e1 : (b0.toList == kGoods.data.toList) = false := other_word hg
  have e2 : (b0.toList == kLot.data.toList) = false := other_word hl
  simp only at e1 e2
  clear hkd hg hl hF hT
  go_enter Tryz.func7, Tryz.ntmps7
  go_wp2_with (first
    | (go_at_call 14; refine HC.out.mono ?_; rintro e w1 ⟨g, cap, rfl, hcap, hcu⟩; have HU : Hid (Cu _ _ _ _) := hcu; have u0 := hcu.word 0 _ rfl; have ug := hcu.lt; have une : g ≠ w1.heap.size := Nat.ne_of_lt ug; clear hcu)
    | (go_at_call 15; refine (hK _).mono ?_; rintro e w2 ⟨rfl, hw⟩; have hw' := hw.symm; subst hw')
    | (go_at_call 18; refine (hFr _).mono ?_; rintro e w3 ⟨rfl, hw⟩; have h3 : Rd w w3 w1.heap.size g (b0, (⟨#[]⟩, 0), (⟨#[]⟩, ⟨#[]⟩, 0, 0), (⟨#[]⟩, 0, 0), (⟨#[]⟩, 0, 0), 0) [b0, b1, b2, b3, b4] := (by rw [hw]; exact HU.out.rd b0); clear hw; obtain ⟨W4, W5, q4, q5, h4, h5⟩ := h3.pieces b1 v; have H3 : Hid (Rd _ _ _ _ _ _) := h3; have H4 : Hid (Rd _ _ _ _ _ _) := h4; have H5 : Hid (Rd _ _ _ _ _ _) := h5; clear h3 h4 h5; have af := H3.out.ent.frozen; have al := H3.out.ent.lt; have a3 := H3.out.ent.at.c3; simp only at a3; have aw0 := H3.out.word 0 _ rfl; have aw1 := H3.out.word 1 _ rfl; have bf := H4.out.ent.frozen; have bl := H4.out.ent.lt; have b13 := H4.out.ent.at.c13; simp only at b13; have bw4 := H4.out.word 4 _ rfl; have cf := H5.out.ent.frozen; have cl := H5.out.ent.lt; have c13 := H5.out.ent.at.c13; simp only at c13; have cw2 := H5.out.word 2 _ rfl)
    | (go_at_call 19; refine (hTo _).mono ?_; rintro e w4 ⟨rfl, hw⟩; have hw' := hw.symm; subst hw')
    | (go_at_call 16; refine (hN _).mono ?_; rintro e w5 ⟨rfl, hw⟩; have hw' := hw.symm; subst hw')
    | (go_at_call_of 20 (Value.string b2); refine (hPF _).mono ?_; rintro e w10 ⟨rfl, hb10⟩; have h10 := H5.out.go hb10; obtain ⟨W11, W12, W13, W14, q11, q12, q13, q14, hB11, h11, h12, h13, h14⟩ := h10.from_ fz fr fb; obtain ⟨f0, f1, f2⟩ := hB11; simp only at f0 f1 f2; clear hb10 h10; have H11 : Hid (Rd _ _ _ _ _ _) := h11; have H12 : Hid (Rd _ _ _ _ _ _) := h12; have H13 : Hid (Rd _ _ _ _ _ _) := h13; have H14 : Hid (Rd _ _ _ _ _ _) := h14; clear h11 h12 h13 h14; have dff := H11.out.ent.frozen; have dfl := H11.out.ent.lt; have df7 := H11.out.ent.at.c7; simp only at df7; have dfqf := H11.out.res.frozen; have dfql := H11.out.res.lt; have dfqe : EntAt W11 w.heap.size (⟨#[]⟩, (⟨#[]⟩, 0), (⟨#[]⟩, ⟨#[]⟩, 0, 0), (⟨#[]⟩, 0, 0), (⟨#[]⟩, 0, 0), 0) := H11.out.res.at; obtain ⟨dfq0, dfq1, dfq2, dfq3, dfq4, dfq5, dfq6, dfq7, dfq8, dfq9, dfq10, dfq11, dfq12, dfq13⟩ := dfqe; simp only at dfq0 dfq1 dfq2 dfq3 dfq4 dfq5 dfq6 dfq7 dfq8 dfq9 dfq10 dfq11 dfq12 dfq13))
  have hFF : BlkE ((((((((((((((W11.setCell ⟨w.heap.size, 0, none⟩ (.string ⟨#[]⟩)).setCell ⟨w.heap.size, 1, none⟩ (.string ⟨#[]⟩)).setCell ⟨w.heap.size, 2, none⟩ (.int .i64 0)).setCell ⟨w.heap.size, 3, none⟩ (.string ⟨#[]⟩)).setCell ⟨w.heap.size, 4, none⟩ (.string ⟨#[]⟩)).setCell ⟨w.heap.size, 5, none⟩ (.int .i64 0)).setCell ⟨w.heap.size, 6, none⟩ (.int .i64 0)).setCell ⟨w.heap.size, 7, none⟩ (.string ⟨#[]⟩)).setCell ⟨w.heap.size, 8, none⟩ (.int .i64 0)).setCell ⟨w.heap.size, 9, none⟩ (.int .i64 0)).setCell ⟨w.heap.size, 10, none⟩ (.string ⟨#[]⟩)).setCell ⟨w.heap.size, 11, none⟩ (.int .i64 0)).setCell ⟨w.heap.size, 12, none⟩ (.int .i64 0)).setCell ⟨w.heap.size, 13, none⟩ (.int .i64 0)) w.heap.size (⟨#[]⟩, (⟨#[]⟩, 0), (⟨#[]⟩, ⟨#[]⟩, 0, 0), (⟨#[]⟩, 0, 0), (⟨#[]⟩, 0, 0), 0) := BlkE.setE H11.out.res (⟨#[]⟩, (⟨#[]⟩, 0), (⟨#[]⟩, ⟨#[]⟩, 0, 0), (⟨#[]⟩, 0, 0), (⟨#[]⟩, 0, 0), 0)
  have hBF : Below w.heap.size w ((((((((((((((W11.setCell ⟨w.heap.size, 0, none⟩ (.string ⟨#[]⟩)).setCell ⟨w.heap.size, 1, none⟩ (.string ⟨#[]⟩)).setCell ⟨w.heap.size, 2, none⟩ (.int .i64 0)).setCell ⟨w.heap.size, 3, none⟩ (.string ⟨#[]⟩)).setCell ⟨w.heap.size, 4, none⟩ (.string ⟨#[]⟩)).setCell ⟨w.heap.size, 5, none⟩ (.int .i64 0)).setCell ⟨w.heap.size, 6, none⟩ (.int .i64 0)).setCell ⟨w.heap.size, 7, none⟩ (.string ⟨#[]⟩)).setCell ⟨w.heap.size, 8, none⟩ (.int .i64 0)).setCell ⟨w.heap.size, 9, none⟩ (.int .i64 0)).setCell ⟨w.heap.size, 10, none⟩ (.string ⟨#[]⟩)).setCell ⟨w.heap.size, 11, none⟩ (.int .i64 0)).setCell ⟨w.heap.size, 12, none⟩ (.int .i64 0)).setCell ⟨w.heap.size, 13, none⟩ (.int .i64 0)) := below_setE H11.out.below (Nat.le_refl _) (⟨#[]⟩, (⟨#[]⟩, 0), (⟨#[]⟩, ⟨#[]⟩, 0, 0), (⟨#[]⟩, 0, 0), (⟨#[]⟩, 0, 0), 0)
  generalize ((((((((((((((W11.setCell ⟨w.heap.size, 0, none⟩ (.string ⟨#[]⟩)).setCell ⟨w.heap.size, 1, none⟩ (.string ⟨#[]⟩)).setCell ⟨w.heap.size, 2, none⟩ (.int .i64 0)).setCell ⟨w.heap.size, 3, none⟩ (.string ⟨#[]⟩)).setCell ⟨w.heap.size, 4, none⟩ (.string ⟨#[]⟩)).setCell ⟨w.heap.size, 5, none⟩ (.int .i64 0)).setCell ⟨w.heap.size, 6, none⟩ (.int .i64 0)).setCell ⟨w.heap.size, 7, none⟩ (.string ⟨#[]⟩)).setCell ⟨w.heap.size, 8, none⟩ (.int .i64 0)).setCell ⟨w.heap.size, 9, none⟩ (.int .i64 0)).setCell ⟨w.heap.size, 10, none⟩ (.string ⟨#[]⟩)).setCell ⟨w.heap.size, 11, none⟩ (.int .i64 0)).setCell ⟨w.heap.size, 12, none⟩ (.int .i64 0)).setCell ⟨w.heap.size, 13, none⟩ (.int .i64 0)) = WF at *
  obtain ⟨f0, f1, f2, f3, f4, f5, f6, f7, f8, f9, f10, f11, f12, f13⟩ := hFF.at
  simp only at f0 f1 f2 f3 f4 f5 f6 f7 f8 f9 f10 f11 f12 f13
  have hzF := hFF.lt
  exact bodyPost_ret (v := .tuple #[.agg #[.string ⟨#[]⟩, .string ⟨#[]⟩, .int .i64 0, .string ⟨#[]⟩, .string ⟨#[]⟩, .int .i64 0, .int .i64 0, .string ⟨#[]⟩, .int .i64 0, .int .i64 0, .string ⟨#[]⟩, .int .i64 0, .int .i64 0, .int .i64 0], .int .i64 E]) (by simp [results, Tryz.results7, go_sem, f0, f1, f2, f3, f4, f5, f6, f7, f8, f9, f10, f11, f12, f13]) rfl ⟨rfl, hBF⟩
end Go.Proofs.YtgdhfipbbijngaaGreatDoor
