/-
  What the reference's ReadEntry answers of a text of pieces that are held or freed; over whatever world.
-/
import Derived.Test.YtgdhfipbbijngaaGreatDoorEzB
namespace Go.Proofs.YtgdhfipbbijngaaGreatDoor
open Go.RowKit Go.Lib Go.Sort

set_option maxRecDepth 100000 in
set_option maxHeartbeats 8000000 in
theorem re_hold_few (x b0 : ByteArray) (t : List ByteArray) (n : Nat) (w : World) (hcut : Calls Tryz.prog 14 #[.string x, .int .u8 ((32 : UInt8).toNat : Int)] (w.alloc (celE zeroE)) fun e w1 => ∃ g cap, e = .returned (.slice (some ⟨g, 0, none⟩) n cap) ∧ n ≤ cap ∧ Cu w w1 g (b0 :: t)) (hpos : 0 < n) (hn : n ≠ 3) (hkd : isKd b0 = true) (hg : b0 ≠ kGoods) (hl : b0 ≠ kLot) (hF : kFrom (kd b0) = false) (hT : kTo (kd b0) = false) :
    Calls Tryz.prog 7 #[.string x] w fun e w' => e = .returned (.tuple #[.agg #[.string ⟨#[]⟩, .string ⟨#[]⟩, .int .i64 0, .string ⟨#[]⟩, .string ⟨#[]⟩, .int .i64 0, .int .i64 0, .string ⟨#[]⟩, .int .i64 0, .int .i64 0, .string ⟨#[]⟩, .int .i64 0, .int .i64 0, .int .i64 0], .int .i64 1]) ∧ Below w.heap.size w w' := by
  have hcut' := hcut
  unfold celE zeroE zeroG zeroL zeroP at hcut'
  simp only at hcut'
  have HC : Hid (Calls Tryz.prog 14 _ _ _) := hcut'
  clear hcut hcut'
  have hK := fun W => isKind_any b0 W
  simp only [hkd] at hK
  have hFr := fun W => hasFrom_any b0 W
  simp only [hF] at hFr
  have hTo := fun W => hasTo_any b0 W
  simp only [hT] at hTo
  have e1 : (b0.toList == kGoods.data.toList) = false := other_word hg
  have e2 : (b0.toList == kLot.data.toList) = false := other_word hl
  simp only at e1 e2
  clear hkd hg hl hF hT
  have hn1 : ((n : Int) == 3) = false := by simp; omega
  have hp1 : (0 : Int) < (n : Int) := by omega
  clear hn
  go_enter Tryz.func7, Tryz.ntmps7
  go_wp2_with (first
    | (go_at_call 14; refine HC.out.mono ?_; rintro e w1 ⟨g, cap, rfl, hcap, hcu⟩; have HU : Hid (Cu _ _ _ _) := hcu; have u0 := hcu.word 0 _ rfl; have ug := hcu.lt; have une : g ≠ w1.heap.size := Nat.ne_of_lt ug; clear hcu)
    | (go_at_call 15; refine (hK _).mono ?_; rintro e w2 ⟨rfl, hw⟩; have hw' := hw.symm; subst hw')
    | (go_at_call 18; refine (hFr _).mono ?_; rintro e w3 ⟨rfl, hw⟩; have h3 : Rd w w3 w1.heap.size g (b0, (⟨#[]⟩, 0), (⟨#[]⟩, ⟨#[]⟩, 0, 0), (⟨#[]⟩, 0, 0), (⟨#[]⟩, 0, 0), 0) (b0 :: t) := (by rw [hw]; exact HU.out.rd b0); clear hw; have H3 : Hid (Rd _ _ _ _ _ _) := h3; clear h3; have af := H3.out.ent.frozen; have al := H3.out.ent.lt; have aw0 := H3.out.word 0 _ rfl; have aqf := H3.out.res.frozen; have aql := H3.out.res.lt; have aqe : EntAt w3 w.heap.size (⟨#[]⟩, (⟨#[]⟩, 0), (⟨#[]⟩, ⟨#[]⟩, 0, 0), (⟨#[]⟩, 0, 0), (⟨#[]⟩, 0, 0), 0) := H3.out.res.at; obtain ⟨aq0, aq1, aq2, aq3, aq4, aq5, aq6, aq7, aq8, aq9, aq10, aq11, aq12, aq13⟩ := aqe; simp only at aq0 aq1 aq2 aq3 aq4 aq5 aq6 aq7 aq8 aq9 aq10 aq11 aq12 aq13)
    | (go_at_call 19; refine (hTo _).mono ?_; rintro e w4 ⟨rfl, hw⟩; have hw' := hw.symm; subst hw'))
  have hFF : BlkE ((((((((((((((w3.setCell ⟨w.heap.size, 0, none⟩ (.string ⟨#[]⟩)).setCell ⟨w.heap.size, 1, none⟩ (.string ⟨#[]⟩)).setCell ⟨w.heap.size, 2, none⟩ (.int .i64 0)).setCell ⟨w.heap.size, 3, none⟩ (.string ⟨#[]⟩)).setCell ⟨w.heap.size, 4, none⟩ (.string ⟨#[]⟩)).setCell ⟨w.heap.size, 5, none⟩ (.int .i64 0)).setCell ⟨w.heap.size, 6, none⟩ (.int .i64 0)).setCell ⟨w.heap.size, 7, none⟩ (.string ⟨#[]⟩)).setCell ⟨w.heap.size, 8, none⟩ (.int .i64 0)).setCell ⟨w.heap.size, 9, none⟩ (.int .i64 0)).setCell ⟨w.heap.size, 10, none⟩ (.string ⟨#[]⟩)).setCell ⟨w.heap.size, 11, none⟩ (.int .i64 0)).setCell ⟨w.heap.size, 12, none⟩ (.int .i64 0)).setCell ⟨w.heap.size, 13, none⟩ (.int .i64 0)) w.heap.size (⟨#[]⟩, (⟨#[]⟩, 0), (⟨#[]⟩, ⟨#[]⟩, 0, 0), (⟨#[]⟩, 0, 0), (⟨#[]⟩, 0, 0), 0) := BlkE.setE H3.out.res (⟨#[]⟩, (⟨#[]⟩, 0), (⟨#[]⟩, ⟨#[]⟩, 0, 0), (⟨#[]⟩, 0, 0), (⟨#[]⟩, 0, 0), 0)
  have hBF : Below w.heap.size w ((((((((((((((w3.setCell ⟨w.heap.size, 0, none⟩ (.string ⟨#[]⟩)).setCell ⟨w.heap.size, 1, none⟩ (.string ⟨#[]⟩)).setCell ⟨w.heap.size, 2, none⟩ (.int .i64 0)).setCell ⟨w.heap.size, 3, none⟩ (.string ⟨#[]⟩)).setCell ⟨w.heap.size, 4, none⟩ (.string ⟨#[]⟩)).setCell ⟨w.heap.size, 5, none⟩ (.int .i64 0)).setCell ⟨w.heap.size, 6, none⟩ (.int .i64 0)).setCell ⟨w.heap.size, 7, none⟩ (.string ⟨#[]⟩)).setCell ⟨w.heap.size, 8, none⟩ (.int .i64 0)).setCell ⟨w.heap.size, 9, none⟩ (.int .i64 0)).setCell ⟨w.heap.size, 10, none⟩ (.string ⟨#[]⟩)).setCell ⟨w.heap.size, 11, none⟩ (.int .i64 0)).setCell ⟨w.heap.size, 12, none⟩ (.int .i64 0)).setCell ⟨w.heap.size, 13, none⟩ (.int .i64 0)) := below_setE H3.out.below (Nat.le_refl _) (⟨#[]⟩, (⟨#[]⟩, 0), (⟨#[]⟩, ⟨#[]⟩, 0, 0), (⟨#[]⟩, 0, 0), (⟨#[]⟩, 0, 0), 0)
  generalize ((((((((((((((w3.setCell ⟨w.heap.size, 0, none⟩ (.string ⟨#[]⟩)).setCell ⟨w.heap.size, 1, none⟩ (.string ⟨#[]⟩)).setCell ⟨w.heap.size, 2, none⟩ (.int .i64 0)).setCell ⟨w.heap.size, 3, none⟩ (.string ⟨#[]⟩)).setCell ⟨w.heap.size, 4, none⟩ (.string ⟨#[]⟩)).setCell ⟨w.heap.size, 5, none⟩ (.int .i64 0)).setCell ⟨w.heap.size, 6, none⟩ (.int .i64 0)).setCell ⟨w.heap.size, 7, none⟩ (.string ⟨#[]⟩)).setCell ⟨w.heap.size, 8, none⟩ (.int .i64 0)).setCell ⟨w.heap.size, 9, none⟩ (.int .i64 0)).setCell ⟨w.heap.size, 10, none⟩ (.string ⟨#[]⟩)).setCell ⟨w.heap.size, 11, none⟩ (.int .i64 0)).setCell ⟨w.heap.size, 12, none⟩ (.int .i64 0)).setCell ⟨w.heap.size, 13, none⟩ (.int .i64 0)) = WF at *
  obtain ⟨f0, f1, f2, f3, f4, f5, f6, f7, f8, f9, f10, f11, f12, f13⟩ := hFF.at
  simp only at f0 f1 f2 f3 f4 f5 f6 f7 f8 f9 f10 f11 f12 f13
  have hzF := hFF.lt
  exact bodyPost_ret (v := .tuple #[.agg #[.string ⟨#[]⟩, .string ⟨#[]⟩, .int .i64 0, .string ⟨#[]⟩, .string ⟨#[]⟩, .int .i64 0, .int .i64 0, .string ⟨#[]⟩, .int .i64 0, .int .i64 0, .string ⟨#[]⟩, .int .i64 0, .int .i64 0, .int .i64 0], .int .i64 1]) (by simp [results, Tryz.results7, go_sem, f0, f1, f2, f3, f4, f5, f6, f7, f8, f9, f10, f11, f12, f13]) rfl ⟨rfl, hBF⟩
set_option maxRecDepth 100000 in
set_option maxHeartbeats 8000000 in
theorem re_hold_num (x b0 b1 b2 : ByteArray) (v : Int) (w : World) (hcut : Calls Tryz.prog 14 #[.string x, .int .u8 ((32 : UInt8).toNat : Int)] (w.alloc (celE zeroE)) fun e w1 => ∃ g cap, e = .returned (.slice (some ⟨g, 0, none⟩) 3 cap) ∧ 3 ≤ cap ∧ Cu w w1 g [b0, b1, b2]) (hkd : isKd b0 = true) (hg : b0 ≠ kGoods) (hl : b0 ≠ kLot) (hF : kFrom (kd b0) = false) (hT : kTo (kd b0) = false) (hN : ∀ W, Calls Tryz.prog 16 #[.string b2, .int .i64 13] W fun e w' => e = .returned (.int .i64 v) ∧ w' = W) (hv : v < 0) :
    Calls Tryz.prog 7 #[.string x] w fun e w' => e = .returned (.tuple #[.agg #[.string ⟨#[]⟩, .string ⟨#[]⟩, .int .i64 0, .string ⟨#[]⟩, .string ⟨#[]⟩, .int .i64 0, .int .i64 0, .string ⟨#[]⟩, .int .i64 0, .int .i64 0, .string ⟨#[]⟩, .int .i64 0, .int .i64 0, .int .i64 0], .int .i64 1]) ∧ Below w.heap.size w w' := by
  have hcut' := hcut
  unfold celE zeroE zeroG zeroL zeroP at hcut'
  simp only at hcut'
  have HC : Hid (Calls Tryz.prog 14 _ _ _) := hcut'
  clear hcut hcut'
  have hK := fun W => isKind_any b0 W
  simp only [hkd] at hK
  have hFr := fun W => hasFrom_any b0 W
  simp only [hF] at hFr
  have hTo := fun W => hasTo_any b0 W
  simp only [hT] at hTo
  have e1 : (b0.toList == kGoods.data.toList) = false := other_word hg
  have e2 : (b0.toList == kLot.data.toList) = false := other_word hl
  simp only at e1 e2
  clear hkd hg hl hF hT
  go_enter Tryz.func7, Tryz.ntmps7
  go_wp2_with (first
    | (go_at_call 14; refine HC.out.mono ?_; rintro e w1 ⟨g, cap, rfl, hcap, hcu⟩; have HU : Hid (Cu _ _ _ _) := hcu; have u0 := hcu.word 0 _ rfl; have ug := hcu.lt; have une : g ≠ w1.heap.size := Nat.ne_of_lt ug; clear hcu)
    | (go_at_call 15; refine (hK _).mono ?_; rintro e w2 ⟨rfl, hw⟩; have hw' := hw.symm; subst hw')
    | (go_at_call 18; refine (hFr _).mono ?_; rintro e w3 ⟨rfl, hw⟩; have h3 : Rd w w3 w1.heap.size g (b0, (⟨#[]⟩, 0), (⟨#[]⟩, ⟨#[]⟩, 0, 0), (⟨#[]⟩, 0, 0), (⟨#[]⟩, 0, 0), 0) [b0, b1, b2] := (by rw [hw]; exact HU.out.rd b0); clear hw; obtain ⟨W4, W5, q4, q5, h4, h5⟩ := h3.pieces b1 v; have H3 : Hid (Rd _ _ _ _ _ _) := h3; have H4 : Hid (Rd _ _ _ _ _ _) := h4; have H5 : Hid (Rd _ _ _ _ _ _) := h5; clear h3 h4 h5; have af := H3.out.ent.frozen; have al := H3.out.ent.lt; have a3 := H3.out.ent.at.c3; simp only at a3; have aw0 := H3.out.word 0 _ rfl; have aw1 := H3.out.word 1 _ rfl; have bf := H4.out.ent.frozen; have bl := H4.out.ent.lt; have b13 := H4.out.ent.at.c13; simp only at b13; have bw2 := H4.out.word 2 _ rfl; have cf := H5.out.ent.frozen; have cl := H5.out.ent.lt; have c13 := H5.out.ent.at.c13; simp only at c13; have cqf := H5.out.res.frozen; have cql := H5.out.res.lt; have cqe : EntAt W5 w.heap.size (⟨#[]⟩, (⟨#[]⟩, 0), (⟨#[]⟩, ⟨#[]⟩, 0, 0), (⟨#[]⟩, 0, 0), (⟨#[]⟩, 0, 0), 0) := H5.out.res.at; obtain ⟨cq0, cq1, cq2, cq3, cq4, cq5, cq6, cq7, cq8, cq9, cq10, cq11, cq12, cq13⟩ := cqe; simp only at cq0 cq1 cq2 cq3 cq4 cq5 cq6 cq7 cq8 cq9 cq10 cq11 cq12 cq13)
    | (go_at_call 19; refine (hTo _).mono ?_; rintro e w4 ⟨rfl, hw⟩; have hw' := hw.symm; subst hw')
    | (go_at_call 16; refine (hN _).mono ?_; rintro e w5 ⟨rfl, hw⟩; have hw' := hw.symm; subst hw'))
  have hFF : BlkE ((((((((((((((W5.setCell ⟨w.heap.size, 0, none⟩ (.string ⟨#[]⟩)).setCell ⟨w.heap.size, 1, none⟩ (.string ⟨#[]⟩)).setCell ⟨w.heap.size, 2, none⟩ (.int .i64 0)).setCell ⟨w.heap.size, 3, none⟩ (.string ⟨#[]⟩)).setCell ⟨w.heap.size, 4, none⟩ (.string ⟨#[]⟩)).setCell ⟨w.heap.size, 5, none⟩ (.int .i64 0)).setCell ⟨w.heap.size, 6, none⟩ (.int .i64 0)).setCell ⟨w.heap.size, 7, none⟩ (.string ⟨#[]⟩)).setCell ⟨w.heap.size, 8, none⟩ (.int .i64 0)).setCell ⟨w.heap.size, 9, none⟩ (.int .i64 0)).setCell ⟨w.heap.size, 10, none⟩ (.string ⟨#[]⟩)).setCell ⟨w.heap.size, 11, none⟩ (.int .i64 0)).setCell ⟨w.heap.size, 12, none⟩ (.int .i64 0)).setCell ⟨w.heap.size, 13, none⟩ (.int .i64 0)) w.heap.size (⟨#[]⟩, (⟨#[]⟩, 0), (⟨#[]⟩, ⟨#[]⟩, 0, 0), (⟨#[]⟩, 0, 0), (⟨#[]⟩, 0, 0), 0) := BlkE.setE H5.out.res (⟨#[]⟩, (⟨#[]⟩, 0), (⟨#[]⟩, ⟨#[]⟩, 0, 0), (⟨#[]⟩, 0, 0), (⟨#[]⟩, 0, 0), 0)
  have hBF : Below w.heap.size w ((((((((((((((W5.setCell ⟨w.heap.size, 0, none⟩ (.string ⟨#[]⟩)).setCell ⟨w.heap.size, 1, none⟩ (.string ⟨#[]⟩)).setCell ⟨w.heap.size, 2, none⟩ (.int .i64 0)).setCell ⟨w.heap.size, 3, none⟩ (.string ⟨#[]⟩)).setCell ⟨w.heap.size, 4, none⟩ (.string ⟨#[]⟩)).setCell ⟨w.heap.size, 5, none⟩ (.int .i64 0)).setCell ⟨w.heap.size, 6, none⟩ (.int .i64 0)).setCell ⟨w.heap.size, 7, none⟩ (.string ⟨#[]⟩)).setCell ⟨w.heap.size, 8, none⟩ (.int .i64 0)).setCell ⟨w.heap.size, 9, none⟩ (.int .i64 0)).setCell ⟨w.heap.size, 10, none⟩ (.string ⟨#[]⟩)).setCell ⟨w.heap.size, 11, none⟩ (.int .i64 0)).setCell ⟨w.heap.size, 12, none⟩ (.int .i64 0)).setCell ⟨w.heap.size, 13, none⟩ (.int .i64 0)) := below_setE H5.out.below (Nat.le_refl _) (⟨#[]⟩, (⟨#[]⟩, 0), (⟨#[]⟩, ⟨#[]⟩, 0, 0), (⟨#[]⟩, 0, 0), (⟨#[]⟩, 0, 0), 0)
  generalize ((((((((((((((W5.setCell ⟨w.heap.size, 0, none⟩ (.string ⟨#[]⟩)).setCell ⟨w.heap.size, 1, none⟩ (.string ⟨#[]⟩)).setCell ⟨w.heap.size, 2, none⟩ (.int .i64 0)).setCell ⟨w.heap.size, 3, none⟩ (.string ⟨#[]⟩)).setCell ⟨w.heap.size, 4, none⟩ (.string ⟨#[]⟩)).setCell ⟨w.heap.size, 5, none⟩ (.int .i64 0)).setCell ⟨w.heap.size, 6, none⟩ (.int .i64 0)).setCell ⟨w.heap.size, 7, none⟩ (.string ⟨#[]⟩)).setCell ⟨w.heap.size, 8, none⟩ (.int .i64 0)).setCell ⟨w.heap.size, 9, none⟩ (.int .i64 0)).setCell ⟨w.heap.size, 10, none⟩ (.string ⟨#[]⟩)).setCell ⟨w.heap.size, 11, none⟩ (.int .i64 0)).setCell ⟨w.heap.size, 12, none⟩ (.int .i64 0)).setCell ⟨w.heap.size, 13, none⟩ (.int .i64 0)) = WF at *
  obtain ⟨f0, f1, f2, f3, f4, f5, f6, f7, f8, f9, f10, f11, f12, f13⟩ := hFF.at
  simp only at f0 f1 f2 f3 f4 f5 f6 f7 f8 f9 f10 f11 f12 f13
  have hzF := hFF.lt
  exact bodyPost_ret (v := .tuple #[.agg #[.string ⟨#[]⟩, .string ⟨#[]⟩, .int .i64 0, .string ⟨#[]⟩, .string ⟨#[]⟩, .int .i64 0, .int .i64 0, .string ⟨#[]⟩, .int .i64 0, .int .i64 0, .string ⟨#[]⟩, .int .i64 0, .int .i64 0, .int .i64 0], .int .i64 1]) (by simp [results, Tryz.results7, go_sem, f0, f1, f2, f3, f4, f5, f6, f7, f8, f9, f10, f11, f12, f13]) rfl ⟨rfl, hBF⟩
set_option maxRecDepth 100000 in
set_option maxHeartbeats 8000000 in
theorem re_hold_err (x b0 b1 b2 : ByteArray) (v : Int) (E : Int) (w : World) (hcut : Calls Tryz.prog 14 #[.string x, .int .u8 ((32 : UInt8).toNat : Int)] (w.alloc (celE zeroE)) fun e w1 => ∃ g cap, e = .returned (.slice (some ⟨g, 0, none⟩) 3 cap) ∧ 3 ≤ cap ∧ Cu w w1 g [b0, b1, b2]) (hkd : isKd b0 = true) (hg : b0 ≠ kGoods) (hl : b0 ≠ kLot) (hF : kFrom (kd b0) = false) (hT : kTo (kd b0) = false) (hN : ∀ W, Calls Tryz.prog 16 #[.string b2, .int .i64 13] W fun e w' => e = .returned (.int .i64 v) ∧ w' = W) (hv : 0 ≤ v) (hC : ∀ W, Calls Tryz.prog 10 #[.agg #[.string b0, .string ⟨#[]⟩, .int .i64 0, .string b1, .string ⟨#[]⟩, .int .i64 0, .int .i64 0, .string ⟨#[]⟩, .int .i64 0, .int .i64 0, .string ⟨#[]⟩, .int .i64 0, .int .i64 0, .int .i64 v]] W fun r w' => r = .returned (.int .i64 E) ∧ Below W.heap.size W w') (hE : 0 < E) :
    Calls Tryz.prog 7 #[.string x] w fun e w' => e = .returned (.tuple #[.agg #[.string ⟨#[]⟩, .string ⟨#[]⟩, .int .i64 0, .string ⟨#[]⟩, .string ⟨#[]⟩, .int .i64 0, .int .i64 0, .string ⟨#[]⟩, .int .i64 0, .int .i64 0, .string ⟨#[]⟩, .int .i64 0, .int .i64 0, .int .i64 0], .int .i64 E]) ∧ Below w.heap.size w w' := by
  have hcut' := hcut
  unfold celE zeroE zeroG zeroL zeroP at hcut'
  simp only at hcut'
  have HC : Hid (Calls Tryz.prog 14 _ _ _) := hcut'
  clear hcut hcut'
  have hK := fun W => isKind_any b0 W
  simp only [hkd] at hK
  have hFr := fun W => hasFrom_any b0 W
  simp only [hF] at hFr
  have hTo := fun W => hasTo_any b0 W
  simp only [hT] at hTo
  have e1 : (b0.toList == kGoods.data.toList) = false := other_word hg
  have e2 : (b0.toList == kLot.data.toList) = false := other_word hl
  simp only at e1 e2
  clear hkd hg hl hF hT
  go_enter Tryz.func7, Tryz.ntmps7
  go_wp2_with (first
    | (go_at_call 14; refine HC.out.mono ?_; rintro e w1 ⟨g, cap, rfl, hcap, hcu⟩; have HU : Hid (Cu _ _ _ _) := hcu; have u0 := hcu.word 0 _ rfl; have ug := hcu.lt; have une : g ≠ w1.heap.size := Nat.ne_of_lt ug; clear hcu)
    | (go_at_call 15; refine (hK _).mono ?_; rintro e w2 ⟨rfl, hw⟩; have hw' := hw.symm; subst hw')
    | (go_at_call 18; refine (hFr _).mono ?_; rintro e w3 ⟨rfl, hw⟩; have h3 : Rd w w3 w1.heap.size g (b0, (⟨#[]⟩, 0), (⟨#[]⟩, ⟨#[]⟩, 0, 0), (⟨#[]⟩, 0, 0), (⟨#[]⟩, 0, 0), 0) [b0, b1, b2] := (by rw [hw]; exact HU.out.rd b0); clear hw; obtain ⟨W4, W5, q4, q5, h4, h5⟩ := h3.pieces b1 v; have H3 : Hid (Rd _ _ _ _ _ _) := h3; have H4 : Hid (Rd _ _ _ _ _ _) := h4; have H5 : Hid (Rd _ _ _ _ _ _) := h5; clear h3 h4 h5; have af := H3.out.ent.frozen; have al := H3.out.ent.lt; have a3 := H3.out.ent.at.c3; simp only at a3; have aw0 := H3.out.word 0 _ rfl; have aw1 := H3.out.word 1 _ rfl; have bf := H4.out.ent.frozen; have bl := H4.out.ent.lt; have b13 := H4.out.ent.at.c13; simp only at b13; have bw2 := H4.out.word 2 _ rfl; have cf := H5.out.ent.frozen; have cl := H5.out.ent.lt; have c0 := H5.out.ent.at.c0; simp only at c0; have c1 := H5.out.ent.at.c1; simp only at c1; have c2 := H5.out.ent.at.c2; simp only at c2; have c3 := H5.out.ent.at.c3; simp only at c3; have c4 := H5.out.ent.at.c4; simp only at c4; have c5 := H5.out.ent.at.c5; simp only at c5; have c6 := H5.out.ent.at.c6; simp only at c6; have c7 := H5.out.ent.at.c7; simp only at c7; have c8 := H5.out.ent.at.c8; simp only at c8; have c9 := H5.out.ent.at.c9; simp only at c9; have c10 := H5.out.ent.at.c10; simp only at c10; have c11 := H5.out.ent.at.c11; simp only at c11; have c12 := H5.out.ent.at.c12; simp only at c12; have c13 := H5.out.ent.at.c13; simp only at c13)
    | (go_at_call 19; refine (hTo _).mono ?_; rintro e w4 ⟨rfl, hw⟩; have hw' := hw.symm; subst hw')
    | (go_at_call 16; refine (hN _).mono ?_; rintro e w5 ⟨rfl, hw⟩; have hw' := hw.symm; subst hw')
    | (go_at_call 10; refine (hC _).mono ?_; rintro e w30 ⟨rfl, hb30⟩; have h30 := H5.out.go hb30; clear hb30; have H30 : Hid (Rd _ _ _ _ _ _) := h30; clear h30; have kf := H30.out.ent.frozen; have kl := H30.out.ent.lt; have kqf := H30.out.res.frozen; have kql := H30.out.res.lt; have kqe : EntAt w30 w.heap.size (⟨#[]⟩, (⟨#[]⟩, 0), (⟨#[]⟩, ⟨#[]⟩, 0, 0), (⟨#[]⟩, 0, 0), (⟨#[]⟩, 0, 0), 0) := H30.out.res.at; obtain ⟨kq0, kq1, kq2, kq3, kq4, kq5, kq6, kq7, kq8, kq9, kq10, kq11, kq12, kq13⟩ := kqe; simp only at kq0 kq1 kq2 kq3 kq4 kq5 kq6 kq7 kq8 kq9 kq10 kq11 kq12 kq13))
  have hFF : BlkE ((((((((((((((w30.setCell ⟨w.heap.size, 0, none⟩ (.string ⟨#[]⟩)).setCell ⟨w.heap.size, 1, none⟩ (.string ⟨#[]⟩)).setCell ⟨w.heap.size, 2, none⟩ (.int .i64 0)).setCell ⟨w.heap.size, 3, none⟩ (.string ⟨#[]⟩)).setCell ⟨w.heap.size, 4, none⟩ (.string ⟨#[]⟩)).setCell ⟨w.heap.size, 5, none⟩ (.int .i64 0)).setCell ⟨w.heap.size, 6, none⟩ (.int .i64 0)).setCell ⟨w.heap.size, 7, none⟩ (.string ⟨#[]⟩)).setCell ⟨w.heap.size, 8, none⟩ (.int .i64 0)).setCell ⟨w.heap.size, 9, none⟩ (.int .i64 0)).setCell ⟨w.heap.size, 10, none⟩ (.string ⟨#[]⟩)).setCell ⟨w.heap.size, 11, none⟩ (.int .i64 0)).setCell ⟨w.heap.size, 12, none⟩ (.int .i64 0)).setCell ⟨w.heap.size, 13, none⟩ (.int .i64 0)) w.heap.size (⟨#[]⟩, (⟨#[]⟩, 0), (⟨#[]⟩, ⟨#[]⟩, 0, 0), (⟨#[]⟩, 0, 0), (⟨#[]⟩, 0, 0), 0) := BlkE.setE H30.out.res (⟨#[]⟩, (⟨#[]⟩, 0), (⟨#[]⟩, ⟨#[]⟩, 0, 0), (⟨#[]⟩, 0, 0), (⟨#[]⟩, 0, 0), 0)
  have hBF : Below w.heap.size w ((((((((((((((w30.setCell ⟨w.heap.size, 0, none⟩ (.string ⟨#[]⟩)).setCell ⟨w.heap.size, 1, none⟩ (.string ⟨#[]⟩)).setCell ⟨w.heap.size, 2, none⟩ (.int .i64 0)).setCell ⟨w.heap.size, 3, none⟩ (.string ⟨#[]⟩)).setCell ⟨w.heap.size, 4, none⟩ (.string ⟨#[]⟩)).setCell ⟨w.heap.size, 5, none⟩ (.int .i64 0)).setCell ⟨w.heap.size, 6, none⟩ (.int .i64 0)).setCell ⟨w.heap.size, 7, none⟩ (.string ⟨#[]⟩)).setCell ⟨w.heap.size, 8, none⟩ (.int .i64 0)).setCell ⟨w.heap.size, 9, none⟩ (.int .i64 0)).setCell ⟨w.heap.size, 10, none⟩ (.string ⟨#[]⟩)).setCell ⟨w.heap.size, 11, none⟩ (.int .i64 0)).setCell ⟨w.heap.size, 12, none⟩ (.int .i64 0)).setCell ⟨w.heap.size, 13, none⟩ (.int .i64 0)) := below_setE H30.out.below (Nat.le_refl _) (⟨#[]⟩, (⟨#[]⟩, 0), (⟨#[]⟩, ⟨#[]⟩, 0, 0), (⟨#[]⟩, 0, 0), (⟨#[]⟩, 0, 0), 0)
  generalize ((((((((((((((w30.setCell ⟨w.heap.size, 0, none⟩ (.string ⟨#[]⟩)).setCell ⟨w.heap.size, 1, none⟩ (.string ⟨#[]⟩)).setCell ⟨w.heap.size, 2, none⟩ (.int .i64 0)).setCell ⟨w.heap.size, 3, none⟩ (.string ⟨#[]⟩)).setCell ⟨w.heap.size, 4, none⟩ (.string ⟨#[]⟩)).setCell ⟨w.heap.size, 5, none⟩ (.int .i64 0)).setCell ⟨w.heap.size, 6, none⟩ (.int .i64 0)).setCell ⟨w.heap.size, 7, none⟩ (.string ⟨#[]⟩)).setCell ⟨w.heap.size, 8, none⟩ (.int .i64 0)).setCell ⟨w.heap.size, 9, none⟩ (.int .i64 0)).setCell ⟨w.heap.size, 10, none⟩ (.string ⟨#[]⟩)).setCell ⟨w.heap.size, 11, none⟩ (.int .i64 0)).setCell ⟨w.heap.size, 12, none⟩ (.int .i64 0)).setCell ⟨w.heap.size, 13, none⟩ (.int .i64 0)) = WF at *
  obtain ⟨f0, f1, f2, f3, f4, f5, f6, f7, f8, f9, f10, f11, f12, f13⟩ := hFF.at
  simp only at f0 f1 f2 f3 f4 f5 f6 f7 f8 f9 f10 f11 f12 f13
  have hzF := hFF.lt
  exact bodyPost_ret (v := .tuple #[.agg #[.string ⟨#[]⟩, .string ⟨#[]⟩, .int .i64 0, .string ⟨#[]⟩, .string ⟨#[]⟩, .int .i64 0, .int .i64 0, .string ⟨#[]⟩, .int .i64 0, .int .i64 0, .string ⟨#[]⟩, .int .i64 0, .int .i64 0, .int .i64 0], .int .i64 E]) (by simp [results, Tryz.results7, go_sem, f0, f1, f2, f3, f4, f5, f6, f7, f8, f9, f10, f11, f12, f13]) rfl ⟨rfl, hBF⟩
set_option maxRecDepth 100000 in
set_option maxHeartbeats 8000000 in
theorem re_hold_ok (x b0 b1 b2 : ByteArray) (v : Int) (w : World) (hcut : Calls Tryz.prog 14 #[.string x, .int .u8 ((32 : UInt8).toNat : Int)] (w.alloc (celE zeroE)) fun e w1 => ∃ g cap, e = .returned (.slice (some ⟨g, 0, none⟩) 3 cap) ∧ 3 ≤ cap ∧ Cu w w1 g [b0, b1, b2]) (hkd : isKd b0 = true) (hg : b0 ≠ kGoods) (hl : b0 ≠ kLot) (hF : kFrom (kd b0) = false) (hT : kTo (kd b0) = false) (hN : ∀ W, Calls Tryz.prog 16 #[.string b2, .int .i64 13] W fun e w' => e = .returned (.int .i64 v) ∧ w' = W) (hv : 0 ≤ v) (hC : ∀ W, Calls Tryz.prog 10 #[.agg #[.string b0, .string ⟨#[]⟩, .int .i64 0, .string b1, .string ⟨#[]⟩, .int .i64 0, .int .i64 0, .string ⟨#[]⟩, .int .i64 0, .int .i64 0, .string ⟨#[]⟩, .int .i64 0, .int .i64 0, .int .i64 v]] W fun r w' => r = .returned (.int .i64 0) ∧ Below W.heap.size W w') :
    Calls Tryz.prog 7 #[.string x] w fun e w' => e = .returned (.tuple #[.agg #[.string b0, .string ⟨#[]⟩, .int .i64 0, .string b1, .string ⟨#[]⟩, .int .i64 0, .int .i64 0, .string ⟨#[]⟩, .int .i64 0, .int .i64 0, .string ⟨#[]⟩, .int .i64 0, .int .i64 0, .int .i64 v], .int .i64 0]) ∧ Below w.heap.size w w' := by
  have hcut' := hcut
  unfold celE zeroE zeroG zeroL zeroP at hcut'
  simp only at hcut'
  have HC : Hid (Calls Tryz.prog 14 _ _ _) := hcut'
  clear hcut hcut'
  have hK := fun W => isKind_any b0 W
  simp only [hkd] at hK
  have hFr := fun W => hasFrom_any b0 W
  simp only [hF] at hFr
  have hTo := fun W => hasTo_any b0 W
  simp only [hT] at hTo
  have e1 : (b0.toList == kGoods.data.toList) = false := other_word hg
  have e2 : (b0.toList == kLot.data.toList) = false := other_word hl
  simp only at e1 e2
  clear hkd hg hl hF hT
  go_enter Tryz.func7, Tryz.ntmps7
  go_wp2_with (first
    | (go_at_call 14; refine HC.out.mono ?_; rintro e w1 ⟨g, cap, rfl, hcap, hcu⟩; have HU : Hid (Cu _ _ _ _) := hcu; have u0 := hcu.word 0 _ rfl; have ug := hcu.lt; have une : g ≠ w1.heap.size := Nat.ne_of_lt ug; clear hcu)
    | (go_at_call 15; refine (hK _).mono ?_; rintro e w2 ⟨rfl, hw⟩; have hw' := hw.symm; subst hw')
    | (go_at_call 18; refine (hFr _).mono ?_; rintro e w3 ⟨rfl, hw⟩; have h3 : Rd w w3 w1.heap.size g (b0, (⟨#[]⟩, 0), (⟨#[]⟩, ⟨#[]⟩, 0, 0), (⟨#[]⟩, 0, 0), (⟨#[]⟩, 0, 0), 0) [b0, b1, b2] := (by rw [hw]; exact HU.out.rd b0); clear hw; obtain ⟨W4, W5, q4, q5, h4, h5⟩ := h3.pieces b1 v; have H3 : Hid (Rd _ _ _ _ _ _) := h3; have H4 : Hid (Rd _ _ _ _ _ _) := h4; have H5 : Hid (Rd _ _ _ _ _ _) := h5; clear h3 h4 h5; have af := H3.out.ent.frozen; have al := H3.out.ent.lt; have a3 := H3.out.ent.at.c3; simp only at a3; have aw0 := H3.out.word 0 _ rfl; have aw1 := H3.out.word 1 _ rfl; have bf := H4.out.ent.frozen; have bl := H4.out.ent.lt; have b13 := H4.out.ent.at.c13; simp only at b13; have bw2 := H4.out.word 2 _ rfl; have cf := H5.out.ent.frozen; have cl := H5.out.ent.lt; have c0 := H5.out.ent.at.c0; simp only at c0; have c1 := H5.out.ent.at.c1; simp only at c1; have c2 := H5.out.ent.at.c2; simp only at c2; have c3 := H5.out.ent.at.c3; simp only at c3; have c4 := H5.out.ent.at.c4; simp only at c4; have c5 := H5.out.ent.at.c5; simp only at c5; have c6 := H5.out.ent.at.c6; simp only at c6; have c7 := H5.out.ent.at.c7; simp only at c7; have c8 := H5.out.ent.at.c8; simp only at c8; have c9 := H5.out.ent.at.c9; simp only at c9; have c10 := H5.out.ent.at.c10; simp only at c10; have c11 := H5.out.ent.at.c11; simp only at c11; have c12 := H5.out.ent.at.c12; simp only at c12; have c13 := H5.out.ent.at.c13; simp only at c13)
    | (go_at_call 19; refine (hTo _).mono ?_; rintro e w4 ⟨rfl, hw⟩; have hw' := hw.symm; subst hw')
    | (go_at_call 16; refine (hN _).mono ?_; rintro e w5 ⟨rfl, hw⟩; have hw' := hw.symm; subst hw')
    | (go_at_call 10; refine (hC _).mono ?_; rintro e w30 ⟨rfl, hb30⟩; have h30 := H5.out.go hb30; clear hb30; have H30 : Hid (Rd _ _ _ _ _ _) := h30; clear h30; have kf := H30.out.ent.frozen; have kl := H30.out.ent.lt; have k0 := H30.out.ent.at.c0; simp only at k0; have k1 := H30.out.ent.at.c1; simp only at k1; have k2 := H30.out.ent.at.c2; simp only at k2; have k3 := H30.out.ent.at.c3; simp only at k3; have k4 := H30.out.ent.at.c4; simp only at k4; have k5 := H30.out.ent.at.c5; simp only at k5; have k6 := H30.out.ent.at.c6; simp only at k6; have k7 := H30.out.ent.at.c7; simp only at k7; have k8 := H30.out.ent.at.c8; simp only at k8; have k9 := H30.out.ent.at.c9; simp only at k9; have k10 := H30.out.ent.at.c10; simp only at k10; have k11 := H30.out.ent.at.c11; simp only at k11; have k12 := H30.out.ent.at.c12; simp only at k12; have k13 := H30.out.ent.at.c13; simp only at k13; have kqf := H30.out.res.frozen; have kql := H30.out.res.lt; have kqe : EntAt w30 w.heap.size (⟨#[]⟩, (⟨#[]⟩, 0), (⟨#[]⟩, ⟨#[]⟩, 0, 0), (⟨#[]⟩, 0, 0), (⟨#[]⟩, 0, 0), 0) := H30.out.res.at; obtain ⟨kq0, kq1, kq2, kq3, kq4, kq5, kq6, kq7, kq8, kq9, kq10, kq11, kq12, kq13⟩ := kqe; simp only at kq0 kq1 kq2 kq3 kq4 kq5 kq6 kq7 kq8 kq9 kq10 kq11 kq12 kq13))
  have hFF : BlkE ((((((((((((((w30.setCell ⟨w.heap.size, 0, none⟩ (.string b0)).setCell ⟨w.heap.size, 1, none⟩ (.string ⟨#[]⟩)).setCell ⟨w.heap.size, 2, none⟩ (.int .i64 0)).setCell ⟨w.heap.size, 3, none⟩ (.string b1)).setCell ⟨w.heap.size, 4, none⟩ (.string ⟨#[]⟩)).setCell ⟨w.heap.size, 5, none⟩ (.int .i64 0)).setCell ⟨w.heap.size, 6, none⟩ (.int .i64 0)).setCell ⟨w.heap.size, 7, none⟩ (.string ⟨#[]⟩)).setCell ⟨w.heap.size, 8, none⟩ (.int .i64 0)).setCell ⟨w.heap.size, 9, none⟩ (.int .i64 0)).setCell ⟨w.heap.size, 10, none⟩ (.string ⟨#[]⟩)).setCell ⟨w.heap.size, 11, none⟩ (.int .i64 0)).setCell ⟨w.heap.size, 12, none⟩ (.int .i64 0)).setCell ⟨w.heap.size, 13, none⟩ (.int .i64 v)) w.heap.size (b0, (⟨#[]⟩, 0), (b1, ⟨#[]⟩, 0, 0), (⟨#[]⟩, 0, 0), (⟨#[]⟩, 0, 0), v) := BlkE.setE H30.out.res (b0, (⟨#[]⟩, 0), (b1, ⟨#[]⟩, 0, 0), (⟨#[]⟩, 0, 0), (⟨#[]⟩, 0, 0), v)
  have hBF : Below w.heap.size w ((((((((((((((w30.setCell ⟨w.heap.size, 0, none⟩ (.string b0)).setCell ⟨w.heap.size, 1, none⟩ (.string ⟨#[]⟩)).setCell ⟨w.heap.size, 2, none⟩ (.int .i64 0)).setCell ⟨w.heap.size, 3, none⟩ (.string b1)).setCell ⟨w.heap.size, 4, none⟩ (.string ⟨#[]⟩)).setCell ⟨w.heap.size, 5, none⟩ (.int .i64 0)).setCell ⟨w.heap.size, 6, none⟩ (.int .i64 0)).setCell ⟨w.heap.size, 7, none⟩ (.string ⟨#[]⟩)).setCell ⟨w.heap.size, 8, none⟩ (.int .i64 0)).setCell ⟨w.heap.size, 9, none⟩ (.int .i64 0)).setCell ⟨w.heap.size, 10, none⟩ (.string ⟨#[]⟩)).setCell ⟨w.heap.size, 11, none⟩ (.int .i64 0)).setCell ⟨w.heap.size, 12, none⟩ (.int .i64 0)).setCell ⟨w.heap.size, 13, none⟩ (.int .i64 v)) := below_setE H30.out.below (Nat.le_refl _) (b0, (⟨#[]⟩, 0), (b1, ⟨#[]⟩, 0, 0), (⟨#[]⟩, 0, 0), (⟨#[]⟩, 0, 0), v)
  generalize ((((((((((((((w30.setCell ⟨w.heap.size, 0, none⟩ (.string b0)).setCell ⟨w.heap.size, 1, none⟩ (.string ⟨#[]⟩)).setCell ⟨w.heap.size, 2, none⟩ (.int .i64 0)).setCell ⟨w.heap.size, 3, none⟩ (.string b1)).setCell ⟨w.heap.size, 4, none⟩ (.string ⟨#[]⟩)).setCell ⟨w.heap.size, 5, none⟩ (.int .i64 0)).setCell ⟨w.heap.size, 6, none⟩ (.int .i64 0)).setCell ⟨w.heap.size, 7, none⟩ (.string ⟨#[]⟩)).setCell ⟨w.heap.size, 8, none⟩ (.int .i64 0)).setCell ⟨w.heap.size, 9, none⟩ (.int .i64 0)).setCell ⟨w.heap.size, 10, none⟩ (.string ⟨#[]⟩)).setCell ⟨w.heap.size, 11, none⟩ (.int .i64 0)).setCell ⟨w.heap.size, 12, none⟩ (.int .i64 0)).setCell ⟨w.heap.size, 13, none⟩ (.int .i64 v)) = WF at *
  obtain ⟨f0, f1, f2, f3, f4, f5, f6, f7, f8, f9, f10, f11, f12, f13⟩ := hFF.at
  simp only at f0 f1 f2 f3 f4 f5 f6 f7 f8 f9 f10 f11 f12 f13
  have hzF := hFF.lt
  exact bodyPost_ret (v := .tuple #[.agg #[.string b0, .string ⟨#[]⟩, .int .i64 0, .string b1, .string ⟨#[]⟩, .int .i64 0, .int .i64 0, .string ⟨#[]⟩, .int .i64 0, .int .i64 0, .string ⟨#[]⟩, .int .i64 0, .int .i64 0, .int .i64 v], .int .i64 0]) (by simp [results, Tryz.results7, go_sem, f0, f1, f2, f3, f4, f5, f6, f7, f8, f9, f10, f11, f12, f13]) rfl ⟨rfl, hBF⟩
end Go.Proofs.YtgdhfipbbijngaaGreatDoor
