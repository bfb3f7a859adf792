/-
 What the reference's Book.Do does where a lot comes and others are there.
-/
import Derived.Test.YteomomeigbfeoaaGreatDoorJz24
set_option maxRecDepth 100000
set_option maxHeartbeats 16000000
namespace Go.Proofs.YteomomeigbfeoaaGreatDoor
open Go.RowKit Go.Lib Go.Sort
theorem do_lot_in (w : World) (B q : Nat) (b : Bk) (e : En) (h : RefB w B q b) (hz : SzE e) (hw : WfB b) (he : entErr e = 0) (hk : e.1 = kLot) (h0 : findI nameL b.2.1 e.2.2.1.1 < 0) (h2 : 0 ≤ findI nameG b.1 e.2.2.1.2.1) (h1 : b.2.1.length < 60) (hne : RefBl w B q b) :
  Calls Tryz.prog 40 #[.pointer (some ⟨q, 0, none⟩), agE e] w fun r w' => r = .returned (.int .i64 0) ∧ RefB w' B q (lotB b e.2.2.1) ∧ Turn B w w' := by
 obtain ⟨i0, hi, hz0, hz1, hz2⟩ := info_parts Tryz.infoLh
 have hD := Dw.new h e
 have hC := terr_any e (w.alloc (celE e)) hz
 have HL : Hid (∀ W, RefB W B q b → Calls Tryz.prog 26 #[.pointer (some ⟨q, 0, none⟩), .string e.2.2.1.1] W fun r w' => r = .returned (.int .i64 (findI nameL b.2.1 e.2.2.1.1)) ∧ w' = W) := fun W hW => findL_any W B q b e.2.2.1.1 hW (by have := hw.ll; omega)
 have HF : Hid (∀ W, RefB W B q b → Calls Tryz.prog 27 #[.pointer (some ⟨q, 0, none⟩), .string e.2.2.1.2.1] W fun r w' => r = .returned (.int .i64 (findI nameG b.1 e.2.2.1.2.1)) ∧ w' = W) := fun W hW => findG_any W B q b e.2.2.1.2.1 hW (by have := hw.gl; omega)
 rw [he] at hC
 have e1 : (e.1.toList == kGoods.data.toList) = false := other_word (by rw [hk]; decide)
 have e2 : (e.1.toList == kLot.data.toList) = true := same_wordR hk
 generalize findI nameL b.2.1 e.2.2.1.1 = F at *
 generalize findI nameG b.1 e.2.2.1.2.1 = F1 at *
 have HWf : Hid (WfB b) := hw
 have HNe : Hid (RefBl w B q b) := hne
 have HK0 : Hid (B ≤ w.heap.size) := (by obtain ⟨_, _, _, h9, _, _, _, h8⟩ := h; exact Nat.le_trans h8 (Nat.le_of_lt (Array.getElem?_eq_some_iff.1 h9).1))
 have h1' : (b.2.1.length : Int) < 60 := by omega
 clear hz h he hk hw hne
 obtain ⟨ak, ⟨agc, agp⟩, ⟨ali, alc, alu, alk⟩, ⟨afz, afr, afb⟩, ⟨atz, atr, atb⟩, an⟩ := e
 unfold agE celE at *
 simp only at *
 have HC : Hid (Calls Tryz.prog 82 _ _ _) := hC
 have HD : Hid (Dw _ _ _ _ _ _) := hD
 clear hC hD
 go_enter Tryz.func40, Tryz.ntmps40
 go_wp2_with (first
  | (go_at_call 82; refine HC.out.mono ?_; rintro r w1 ⟨rfl, hb1⟩; have h1w := HD.out.go hb1; obtain ⟨c0, c1, c2, c3, c4, c5, c6, c7, c8, c9, c10, c11, c12, c13⟩ := h1w.ent.at; simp only at c0 c1 c2 c3 c4 c5 c6 c7 c8 c9 c10 c11 c12 c13; obtain ⟨aG, cG, aL, cL, vS', s0, s1, s2, sq⟩ := h1w.book.slices; have H1 : Hid (Dw _ _ _ _ _ _) := h1w; clear hb1 h1w)
  | (go_at_call 26; refine (HL.out _ H1.out.book).mono ?_; rintro r w2 ⟨rfl, hw⟩; have hw' := hw.symm; subst hw')
  | (go_at_call 27; refine (HF.out _ H1.out.book).mono ?_; rintro r w2 ⟨rfl, hw⟩; have hw' := hw.symm; subst hw'))
 obtain ⟨g, cap, vG, vS, k1, k2, k3, k4, k5, k6⟩ := HNe.out.below H1.out.below
 clear c0 c1 c2 c3 c4 c5 c6 c7 c8 c9 c10 c11 c12 c13 s0 s1 s2 HF HC HD HNe HL
 generalize hln : b.2.1.length = ln at *
 have HN : Hid (ln = b.2.1.length) := hln.symm
 have HK1 : Hid (w1.heap[q]? = some (.cells #[vG, .slice (some ⟨g, 0, none⟩) ln cap, vS] 88 (0, 0))) := k1
 have HK2 : Hid (encLh.Row w1 B 125 (.slice (some ⟨g, 0, none⟩) ln cap) b.2.1) := k2
 clear hln k1 k2
 go_loopw [8] (fun i wr => ∃ k : Nat, k ≤ ln ∧ i = .int .i64 k ∧ Below w1.heap.size w1 wr ∧ ∀ x ∈ b.2.1.take k, zLt (nameL x) ali = true) (fun i _ => ln - (RowKit.intOf i).toNat)
 case atStart => exact ⟨0, Nat.zero_le _, rfl, Below.refl _ _, by simp⟩
 case round =>
  obtain ⟨k, hk, rfl, hwr, hno⟩ := hrel
  have HNo : Hid (∀ x ∈ b.2.1.take k, zLt (nameL x) ali = true) := hno
  have hDr := H1.out.go hwr
  have cr := hDr.ent.at.c3
  simp only at cr
  have hblk : wr.heap[q]? = some (.cells #[vG, .slice (some ⟨g, 0, none⟩) ln cap, vS] 88 (0, 0)) := (hwr.block q (Array.getElem?_eq_some_iff.1 HK1.out).1).trans HK1.out
  have sr : wr.cell? ⟨q, 1, none⟩ = some (.slice (some ⟨g, 0, none⟩) ln cap) := by rw [cell_of_heap hblk]; rfl
  have HDr : Hid (Dw _ _ _ _ _ _) := hDr
  have HBr : Hid (wr.heap[q]? = _) := hblk
  clear hno hDr hblk
  by_cases hlt : k < ln
  ·have hkm : k < b.2.1.length := by rw [← HN.out]; exact hlt
   obtain ⟨x, hx⟩ : ∃ x, b.2.1[k]? = some x := ⟨_, List.getElem?_eq_getElem hkm⟩
   have HX : Hid (b.2.1[k]? = some x) := hx
   have c0 : wr.cell? ⟨g, k * 5, none⟩ = some (.string x.1.1) := by
    rcases (HK2.out.below hwr).forms with ⟨h9, _⟩ | ⟨g', cap', hv, _, _, _, _, hrow⟩
    ·cases h9
    ·injection hv with a1 a2 a3
     injection a1 with a1
     injection a1 with a1
     subst a1
     exact (hrow k x 0 hx (by decide)).trans rfl
   clear hx hkm
   generalize hy : x.1.1 = y at *
   have HY : Hid (x.1.1 = y) := hy
   clear hy
   have e3 := less_eq y ali
   cases hzl : zLt y ali with
   | true =>
    rw [hzl] at e3
    have HK : Hid (zLt (nameL x) ali = true) := by show zLt x.1.1 _ = true; rw [HY.out]; exact hzl
    clear hzl
    go_wp2
    go_quiet (fail)
    go_wp2
    go_roundw
    case rel => exact ⟨k + 1, by omega, by go_num, below_drewN hwr _, takeI_next HX.out HNo.out HK.out⟩
    case measure => simp [RowKit.intOf]; omega
   | false =>
    rw [hzl] at e3
    have HK : Hid (aheadC nameL ali b.2.1 = k) := aheadC_eq _ _ _ _ (by rw [← HN.out]; omega) HNo.out (fun z hz => by
     rw [HX.out] at hz
     injection hz with hz
     rw [← hz]
     show zLt x.1.1 _ = false
     rw [HY.out]; exact hzl)
    clear hzl
    go_wp2
    go_quiet (fail)
    have hbx : Below w1.heap.size w1 (wr.drewN nq) := below_drewN hwr nq
    have hDx := H1.out.go hbx
    have hbk : (wr.drewN nq).heap[q]? = some (.cells #[vG, .slice (some ⟨g, 0, none⟩) ln cap, vS] 88 (0, 0)) := (hbx.block q (Array.getElem?_eq_some_iff.1 HK1.out).1).trans HK1.out
    have HR : Hid (encLh.Row (wr.drewN nq) B 125 (.slice (some ⟨g, 0, none⟩) b.2.1.length cap) b.2.1) := by
     show Enc.Row _ _ _ _ _ _
     rw [← HN.out]; exact HK2.out.below hbx
    have HOth := k3.below hbx
    have HSt := k4.below hbx
    clear cr sr HDr HBr hwr
    generalize (wr.drewN nq) = W at *
    have HLe : Hid (0 + k ≤ b.2.1.length) := by show _ ≤ _; rw [← HN.out]; omega
    have HLe2 : Hid (k + (ln - k) ≤ b.2.1.length) := by show _ ≤ _; rw [← HN.out]; omega
    have HFin : Hid (∀ (V : World) (v : Value), V.ownsRow W.heap.size 125 5 v (0 + k + 1 + (ln - k)) ([] ++ encLh.flat ((b.2.1.drop 0).take k) ++ encLh.enc (((ali, alc, alu, alk), 0) : Lh) ++ encLh.flat ((b.2.1.drop k).take (ln - k))) → encLh.Row V W.heap.size 125 v (insC nameL b.2.1 (((ali, alc, alu, alk), 0) : Lh))) := by
     show ∀ (V : World) (v : Value), _ → _
     intro V v hv
     have e1 : insC nameL b.2.1 (((ali, alc, alu, alk), 0) : Lh) = b.2.1.take k ++ (((ali, alc, alu, alk), 0) : Lh) :: b.2.1.drop k := by
      unfold insC
      rw [show aheadC nameL (nameL (((ali, alc, alu, alk), 0) : Lh)) b.2.1 = k from HK.out]
     have e2 : encLh.flat (b.2.1.take k ++ (((ali, alc, alu, alk), 0) : Lh) :: b.2.1.drop k) = [] ++ encLh.flat ((b.2.1.drop 0).take k) ++ encLh.enc (((ali, alc, alu, alk), 0) : Lh) ++ encLh.flat ((b.2.1.drop k).take (ln - k)) := by
      rw [List.take_of_length_le (l := b.2.1.drop k) (by rw [List.length_drop, ← HN.out]; omega), List.nil_append, List.drop_zero, encLh.flat_append, List.append_assoc]
      congr 1
     have e3 : (b.2.1.take k ++ (((ali, alc, alu, alk), 0) : Lh) :: b.2.1.drop k).length = 0 + k + 1 + (ln - k) := by
      rw [List.length_append, List.length_cons, List.length_take, List.length_drop, ← HN.out]
      omega
     unfold Enc.Row
     rw [e1, e2, e3]
     exact hv
    have hks : (k : Int) ≤ (ln : Int) := by omega
    have hkc : (k : Int) ≤ (cap : Int) := by omega
    have hlc : (ln : Int) ≤ (cap : Int) := by omega
    have oD := hDx.go (Below.refl _ W); have ob : W.heap[q]? = some (.cells #[vG, .slice (some ⟨g, 0, none⟩) ln cap, vS] 88 (0, 0)) := ((Below.refl _ W).block q (Array.getElem?_eq_some_iff.1 hbk).1).trans hbk; have os : W.cell? ⟨q, 1, none⟩ = some (.slice (some ⟨g, 0, none⟩) ln cap) := (by rw [cell_of_heap ob]; rfl); have ofz : W.frozen? ⟨q, 1, none⟩ = false := frozen_of_heap ob _; have o3 := oD.ent.at.c3; simp only at o3; have o4 := oD.ent.at.c4; simp only at o4; have o5 := oD.ent.at.c5; simp only at o5; have o6 := oD.ent.at.c6; simp only at o6; have oH : Hid (Dw _ _ _ _ _ _) := oD; have oB : Hid (W.heap[q]? = _) := ob; clear oD ob
    have HBq : Hid (B ≤ W.heap.size) := Nat.le_trans k5 (Nat.le_of_lt (Array.getElem?_eq_some_iff.1 hbk).1)
    have hbB : Hid (Turn B w W) := Turn.of hDx.below (by have := HK0.out; omega)
    go_wp2_with (first
     | (at_builtin; refine wpList_append_own _ rfl _ _ 84 rfl W.heap.size 125 i0 (.agg #[.string ⟨#[]⟩, .string ⟨#[]⟩, .int .i64 0, .int .i64 0, .int .i64 0]) 5 56 Tryz.underlying84 hi hz0 hz1 hz2 rfl (by decide) (.slice none 0 0) 0 [] rfl (World.ownsRow_nil _ _ _ _) ⟨g, 0, none⟩ k _ (encLh.flat ((b.2.1.drop 0).take k)) rfl (encLh.news_len _ 0 k HLe.out) (HR.out.news 0 k 0 HLe.out (Or.inr (by simp))) (encLh.flat_cell _) (by unfold maxLen; omega) (by omega) (Nat.le_refl _) ?_; intro v1 W1 own1 gr1 _; have bW1 : Below W.heap.size W W1 := (Below.refl _ W).grown gr1 (Nat.le_refl _) (fun k hk => by cases hk); have pD := hDx.go bW1; have pb : W1.heap[q]? = some (.cells #[vG, .slice (some ⟨g, 0, none⟩) ln cap, vS] 88 (0, 0)) := (bW1.block q (Array.getElem?_eq_some_iff.1 hbk).1).trans hbk; have ps : W1.cell? ⟨q, 1, none⟩ = some (.slice (some ⟨g, 0, none⟩) ln cap) := (by rw [cell_of_heap pb]; rfl); have pfz : W1.frozen? ⟨q, 1, none⟩ = false := frozen_of_heap pb _; have p3 := pD.ent.at.c3; simp only at p3; have p4 := pD.ent.at.c4; simp only at p4; have p5 := pD.ent.at.c5; simp only at p5; have p6 := pD.ent.at.c6; simp only at p6; have pH : Hid (Dw _ _ _ _ _ _) := pD; have pB : Hid (W1.heap[q]? = _) := pb; clear pD pb; have O1 : Hid (W1.ownsRow W.heap.size 125 5 v1 (0 + k) ([] ++ encLh.flat ((b.2.1.drop 0).take k))) := own1; have BW1 : Hid (Below _ _ _) := bW1; clear own1 gr1 bW1)
     | (at_builtin; refine wpList_append_own _ rfl _ _ 84 rfl W.heap.size 125 i0 (.agg #[.string ⟨#[]⟩, .string ⟨#[]⟩, .int .i64 0, .int .i64 0, .int .i64 0]) 5 56 Tryz.underlying84 hi hz0 hz1 hz2 rfl (by decide) v1 (0 + k) ([] ++ encLh.flat ((b.2.1.drop 0).take k)) rfl (O1.out.alloc _) ⟨W1.heap.size, 0, none⟩ 1 1 (encLh.enc (((ali, alc, alu, alk), 0) : Lh)) rfl rfl (World.news_of_block (heap_alloc_new W1 _)) (encLh.one _) (by unfold maxLen; omega) (by omega) (by have := BW1.out.size; simp; omega) ?_; intro v2 W2 own2 gr2 _; have bW2 : Below W.heap.size W W2 := (BW1.out.alloc BW1.out.size _).grown gr2 (by have := BW1.out.size; simp; omega) (fun k hk => (O1.out.lt k hk).1); have sD := hDx.go bW2; have sb : W2.heap[q]? = some (.cells #[vG, .slice (some ⟨g, 0, none⟩) ln cap, vS] 88 (0, 0)) := (bW2.block q (Array.getElem?_eq_some_iff.1 hbk).1).trans hbk; have ss : W2.cell? ⟨q, 1, none⟩ = some (.slice (some ⟨g, 0, none⟩) ln cap) := (by rw [cell_of_heap sb]; rfl); have sfz : W2.frozen? ⟨q, 1, none⟩ = false := frozen_of_heap sb _; have s3 := sD.ent.at.c3; simp only at s3; have s4 := sD.ent.at.c4; simp only at s4; have s5 := sD.ent.at.c5; simp only at s5; have s6 := sD.ent.at.c6; simp only at s6; have sH : Hid (Dw _ _ _ _ _ _) := sD; have sB : Hid (W2.heap[q]? = _) := sb; clear sD sb; have O2 : Hid (W2.ownsRow W.heap.size 125 5 v2 (0 + k + 1) ([] ++ encLh.flat ((b.2.1.drop 0).take k) ++ encLh.enc (((ali, alc, alu, alk), 0) : Lh))) := own2; have BW2 : Hid (Below _ _ _) := bW2; clear own2 gr2 bW2)
     | (at_builtin; refine wpList_append_own _ rfl _ _ 84 rfl W.heap.size 125 i0 (.agg #[.string ⟨#[]⟩, .string ⟨#[]⟩, .int .i64 0, .int .i64 0, .int .i64 0]) 5 56 Tryz.underlying84 hi hz0 hz1 hz2 rfl (by decide) v2 (0 + k + 1) ([] ++ encLh.flat ((b.2.1.drop 0).take k) ++ encLh.enc (((ali, alc, alu, alk), 0) : Lh)) rfl O2.out ⟨g, _, none⟩ (ln - k) _ (encLh.flat ((b.2.1.drop k).take (ln - k))) rfl (encLh.news_len _ k (ln - k) HLe2.out) ((HR.out.below BW2.out).news k (ln - k) _ HLe2.out (by first | exact Or.inr rfl | exact Or.inl (by omega) | (right; simp; omega))) (encLh.flat_cell _) (by unfold maxLen; omega) (by omega) BW2.out.size ?_; intro v3 W3 own3 gr3 _; have bW3 : Below W.heap.size W W3 := BW2.out.grown gr3 BW2.out.size (fun k hk => (O2.out.lt k hk).1); have tD := hDx.go bW3; have tb : W3.heap[q]? = some (.cells #[vG, .slice (some ⟨g, 0, none⟩) ln cap, vS] 88 (0, 0)) := (bW3.block q (Array.getElem?_eq_some_iff.1 hbk).1).trans hbk; have ts : W3.cell? ⟨q, 1, none⟩ = some (.slice (some ⟨g, 0, none⟩) ln cap) := (by rw [cell_of_heap tb]; rfl); have tfz : W3.frozen? ⟨q, 1, none⟩ = false := frozen_of_heap tb _; have t3 := tD.ent.at.c3; simp only at t3; have t4 := tD.ent.at.c4; simp only at t4; have t5 := tD.ent.at.c5; simp only at t5; have t6 := tD.ent.at.c6; simp only at t6; have tH : Hid (Dw _ _ _ _ _ _) := tD; have tB : Hid (W3.heap[q]? = _) := tb; clear tD tb; have O3 := HFin.out W3 v3 own3; obtain ⟨a3, c3, rfl⟩ := Enc.Row.shape O3; have OO3 : Hid (Enc.Row _ _ _ _ _ _) := O3; have BW3 : Hid (Below _ _ _) := bW3; clear own3 gr3 bW3 O3))
    go_ret
    refine ⟨rfl, ?_, ?_⟩
    ·exact RefB.setL tB.out (OO3.out.base HBq.out) ((HOth.below BW3.out)) ((HSt.below BW3.out)) k5
    ·exact (hbB.out.trans (Turn.of BW3.out HBq.out)).set k5 (Or.inl rfl) tB.out _
  ·have HK : Hid (aheadC nameL ali b.2.1 = k) := aheadC_eq _ _ _ _ (by rw [← HN.out]; omega) HNo.out (fun z hz => by
    have := (List.getElem?_eq_some_iff.1 hz).1
    rw [← HN.out] at this
    omega)
   go_wp2
   go_quiet (fail)
   have hbx : Below w1.heap.size w1 (wr.drewN nq) := below_drewN hwr nq
   have hDx := H1.out.go hbx
   have hbk : (wr.drewN nq).heap[q]? = some (.cells #[vG, .slice (some ⟨g, 0, none⟩) ln cap, vS] 88 (0, 0)) := (hbx.block q (Array.getElem?_eq_some_iff.1 HK1.out).1).trans HK1.out
   have HR : Hid (encLh.Row (wr.drewN nq) B 125 (.slice (some ⟨g, 0, none⟩) b.2.1.length cap) b.2.1) := by
    show Enc.Row _ _ _ _ _ _
    rw [← HN.out]; exact HK2.out.below hbx
   have HOth := k3.below hbx
   have HSt := k4.below hbx
   clear cr sr HDr HBr hwr
   generalize (wr.drewN nq) = W at *
   have HLe : Hid (0 + k ≤ b.2.1.length) := by show _ ≤ _; rw [← HN.out]; omega
   have HLe2 : Hid (k + (ln - k) ≤ b.2.1.length) := by show _ ≤ _; rw [← HN.out]; omega
   have HFin : Hid (∀ (V : World) (v : Value), V.ownsRow W.heap.size 125 5 v (0 + k + 1 + (ln - k)) ([] ++ encLh.flat ((b.2.1.drop 0).take k) ++ encLh.enc (((ali, alc, alu, alk), 0) : Lh) ++ encLh.flat ((b.2.1.drop k).take (ln - k))) → encLh.Row V W.heap.size 125 v (insC nameL b.2.1 (((ali, alc, alu, alk), 0) : Lh))) := by
    show ∀ (V : World) (v : Value), _ → _
    intro V v hv
    have e1 : insC nameL b.2.1 (((ali, alc, alu, alk), 0) : Lh) = b.2.1.take k ++ (((ali, alc, alu, alk), 0) : Lh) :: b.2.1.drop k := by
     unfold insC
     rw [show aheadC nameL (nameL (((ali, alc, alu, alk), 0) : Lh)) b.2.1 = k from HK.out]
    have e2 : encLh.flat (b.2.1.take k ++ (((ali, alc, alu, alk), 0) : Lh) :: b.2.1.drop k) = [] ++ encLh.flat ((b.2.1.drop 0).take k) ++ encLh.enc (((ali, alc, alu, alk), 0) : Lh) ++ encLh.flat ((b.2.1.drop k).take (ln - k)) := by
     rw [List.take_of_length_le (l := b.2.1.drop k) (by rw [List.length_drop, ← HN.out]; omega), List.nil_append, List.drop_zero, encLh.flat_append, List.append_assoc]
     congr 1
    have e3 : (b.2.1.take k ++ (((ali, alc, alu, alk), 0) : Lh) :: b.2.1.drop k).length = 0 + k + 1 + (ln - k) := by
     rw [List.length_append, List.length_cons, List.length_take, List.length_drop, ← HN.out]
     omega
    unfold Enc.Row
    rw [e1, e2, e3]
    exact hv
   have hks : (k : Int) ≤ (ln : Int) := by omega
   have hkc : (k : Int) ≤ (cap : Int) := by omega
   have hlc : (ln : Int) ≤ (cap : Int) := by omega
   have oD := hDx.go (Below.refl _ W); have ob : W.heap[q]? = some (.cells #[vG, .slice (some ⟨g, 0, none⟩) ln cap, vS] 88 (0, 0)) := ((Below.refl _ W).block q (Array.getElem?_eq_some_iff.1 hbk).1).trans hbk; have os : W.cell? ⟨q, 1, none⟩ = some (.slice (some ⟨g, 0, none⟩) ln cap) := (by rw [cell_of_heap ob]; rfl); have ofz : W.frozen? ⟨q, 1, none⟩ = false := frozen_of_heap ob _; have o3 := oD.ent.at.c3; simp only at o3; have o4 := oD.ent.at.c4; simp only at o4; have o5 := oD.ent.at.c5; simp only at o5; have o6 := oD.ent.at.c6; simp only at o6; have oH : Hid (Dw _ _ _ _ _ _) := oD; have oB : Hid (W.heap[q]? = _) := ob; clear oD ob
   have HBq : Hid (B ≤ W.heap.size) := Nat.le_trans k5 (Nat.le_of_lt (Array.getElem?_eq_some_iff.1 hbk).1)
   have hbB : Hid (Turn B w W) := Turn.of hDx.below (by have := HK0.out; omega)
   by_cases hck : cap = k
   all_goals
    go_wp2_with (first
     | (at_builtin; refine wpList_append_own _ rfl _ _ 84 rfl W.heap.size 125 i0 (.agg #[.string ⟨#[]⟩, .string ⟨#[]⟩, .int .i64 0, .int .i64 0, .int .i64 0]) 5 56 Tryz.underlying84 hi hz0 hz1 hz2 rfl (by decide) (.slice none 0 0) 0 [] rfl (World.ownsRow_nil _ _ _ _) ⟨g, 0, none⟩ k _ (encLh.flat ((b.2.1.drop 0).take k)) rfl (encLh.news_len _ 0 k HLe.out) (HR.out.news 0 k 0 HLe.out (Or.inr (by simp))) (encLh.flat_cell _) (by unfold maxLen; omega) (by omega) (Nat.le_refl _) ?_; intro v1 W1 own1 gr1 _; have bW1 : Below W.heap.size W W1 := (Below.refl _ W).grown gr1 (Nat.le_refl _) (fun k hk => by cases hk); have pD := hDx.go bW1; have pb : W1.heap[q]? = some (.cells #[vG, .slice (some ⟨g, 0, none⟩) ln cap, vS] 88 (0, 0)) := (bW1.block q (Array.getElem?_eq_some_iff.1 hbk).1).trans hbk; have ps : W1.cell? ⟨q, 1, none⟩ = some (.slice (some ⟨g, 0, none⟩) ln cap) := (by rw [cell_of_heap pb]; rfl); have pfz : W1.frozen? ⟨q, 1, none⟩ = false := frozen_of_heap pb _; have p3 := pD.ent.at.c3; simp only at p3; have p4 := pD.ent.at.c4; simp only at p4; have p5 := pD.ent.at.c5; simp only at p5; have p6 := pD.ent.at.c6; simp only at p6; have pH : Hid (Dw _ _ _ _ _ _) := pD; have pB : Hid (W1.heap[q]? = _) := pb; clear pD pb; have O1 : Hid (W1.ownsRow W.heap.size 125 5 v1 (0 + k) ([] ++ encLh.flat ((b.2.1.drop 0).take k))) := own1; have BW1 : Hid (Below _ _ _) := bW1; clear own1 gr1 bW1)
     | (at_builtin; refine wpList_append_own _ rfl _ _ 84 rfl W.heap.size 125 i0 (.agg #[.string ⟨#[]⟩, .string ⟨#[]⟩, .int .i64 0, .int .i64 0, .int .i64 0]) 5 56 Tryz.underlying84 hi hz0 hz1 hz2 rfl (by decide) v1 (0 + k) ([] ++ encLh.flat ((b.2.1.drop 0).take k)) rfl (O1.out.alloc _) ⟨W1.heap.size, 0, none⟩ 1 1 (encLh.enc (((ali, alc, alu, alk), 0) : Lh)) rfl rfl (World.news_of_block (heap_alloc_new W1 _)) (encLh.one _) (by unfold maxLen; omega) (by omega) (by have := BW1.out.size; simp; omega) ?_; intro v2 W2 own2 gr2 _; have bW2 : Below W.heap.size W W2 := (BW1.out.alloc BW1.out.size _).grown gr2 (by have := BW1.out.size; simp; omega) (fun k hk => (O1.out.lt k hk).1); have sD := hDx.go bW2; have sb : W2.heap[q]? = some (.cells #[vG, .slice (some ⟨g, 0, none⟩) ln cap, vS] 88 (0, 0)) := (bW2.block q (Array.getElem?_eq_some_iff.1 hbk).1).trans hbk; have ss : W2.cell? ⟨q, 1, none⟩ = some (.slice (some ⟨g, 0, none⟩) ln cap) := (by rw [cell_of_heap sb]; rfl); have sfz : W2.frozen? ⟨q, 1, none⟩ = false := frozen_of_heap sb _; have s3 := sD.ent.at.c3; simp only at s3; have s4 := sD.ent.at.c4; simp only at s4; have s5 := sD.ent.at.c5; simp only at s5; have s6 := sD.ent.at.c6; simp only at s6; have sH : Hid (Dw _ _ _ _ _ _) := sD; have sB : Hid (W2.heap[q]? = _) := sb; clear sD sb; have O2 : Hid (W2.ownsRow W.heap.size 125 5 v2 (0 + k + 1) ([] ++ encLh.flat ((b.2.1.drop 0).take k) ++ encLh.enc (((ali, alc, alu, alk), 0) : Lh))) := own2; have BW2 : Hid (Below _ _ _) := bW2; clear own2 gr2 bW2)
     | (at_builtin; refine wpList_append_own _ rfl _ _ 84 rfl W.heap.size 125 i0 (.agg #[.string ⟨#[]⟩, .string ⟨#[]⟩, .int .i64 0, .int .i64 0, .int .i64 0]) 5 56 Tryz.underlying84 hi hz0 hz1 hz2 rfl (by decide) v2 (0 + k + 1) ([] ++ encLh.flat ((b.2.1.drop 0).take k) ++ encLh.enc (((ali, alc, alu, alk), 0) : Lh)) rfl O2.out ⟨g, _, none⟩ (ln - k) _ (encLh.flat ((b.2.1.drop k).take (ln - k))) rfl (encLh.news_len _ k (ln - k) HLe2.out) ((HR.out.below BW2.out).news k (ln - k) _ HLe2.out (by first | exact Or.inr rfl | exact Or.inl (by omega) | (right; simp; omega))) (encLh.flat_cell _) (by unfold maxLen; omega) (by omega) BW2.out.size ?_; intro v3 W3 own3 gr3 _; have bW3 : Below W.heap.size W W3 := BW2.out.grown gr3 BW2.out.size (fun k hk => (O2.out.lt k hk).1); have tD := hDx.go bW3; have tb : W3.heap[q]? = some (.cells #[vG, .slice (some ⟨g, 0, none⟩) ln cap, vS] 88 (0, 0)) := (bW3.block q (Array.getElem?_eq_some_iff.1 hbk).1).trans hbk; have ts : W3.cell? ⟨q, 1, none⟩ = some (.slice (some ⟨g, 0, none⟩) ln cap) := (by rw [cell_of_heap tb]; rfl); have tfz : W3.frozen? ⟨q, 1, none⟩ = false := frozen_of_heap tb _; have t3 := tD.ent.at.c3; simp only at t3; have t4 := tD.ent.at.c4; simp only at t4; have t5 := tD.ent.at.c5; simp only at t5; have t6 := tD.ent.at.c6; simp only at t6; have tH : Hid (Dw _ _ _ _ _ _) := tD; have tB : Hid (W3.heap[q]? = _) := tb; clear tD tb; have O3 := HFin.out W3 v3 own3; obtain ⟨a3, c3, rfl⟩ := Enc.Row.shape O3; have OO3 : Hid (Enc.Row _ _ _ _ _ _) := O3; have BW3 : Hid (Below _ _ _) := bW3; clear own3 gr3 bW3 O3))
    go_ret
    refine ⟨rfl, ?_, ?_⟩
    ·exact RefB.setL tB.out (OO3.out.base HBq.out) ((HOth.below BW3.out)) ((HSt.below BW3.out)) k5
    ·exact (hbB.out.trans (Turn.of BW3.out HBq.out)).set k5 (Or.inl rfl) tB.out _
end Go.Proofs.YteomomeigbfeoaaGreatDoor
