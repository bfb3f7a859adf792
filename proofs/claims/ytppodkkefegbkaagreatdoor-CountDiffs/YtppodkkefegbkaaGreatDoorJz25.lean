/-
 Entries over every later world; LongEntries of at most forty that are none too long.
-/
import Derived.Test.YtppodkkefegbkaaGreatDoorJz22
import Derived.Test.YtppodkkefegbkaaGreatDoorJz24
set_option maxRecDepth 100000
set_option maxHeartbeats 16000000
namespace Go.Proofs.YtppodkkefegbkaaGreatDoor
open Go.RowKit Go.Lib Go.Sort
theorem ents_on {pp : Option Addr} {l : List En} {w W : World} (hr : l = [] ∨ ∃ bq off, pp = some ⟨bq, off, none⟩ ∧ Ents w bq off l) (hb : Below w.heap.size w W) : l = [] ∨ ∃ bq off, pp = some ⟨bq, off, none⟩ ∧ Ents W bq off l :=
 hr.imp id fun ⟨bq, off, h1, h2⟩ => ⟨bq, off, h1, h2.below h2.lt hb⟩
theorem longs_zero {pp : Option Addr} {l : List En} {cap : Nat} {w : World} (hz : ∀ e ∈ l, SzE e) (hr : l = [] ∨ ∃ bq off, pp = some ⟨bq, off, none⟩ ∧ Ents w bq off l) (h40 : l.length ≤ 40) (hno : longs l = false) (W : World) (hb : Below w.heap.size w W) : Calls Tryz.prog 7 #[.slice pp l.length cap, .int .i64 40] W fun r w' => r = .returned (.int .i64 0) ∧ Below W.heap.size W w' := by
 rcases hr with rfl | ⟨bq, off, rfl, hE⟩
 ·refine (longs_none pp cap 40 W (by decide)).mono ?_
  rintro r w' ⟨rfl, rfl⟩
  exact ⟨rfl, Below.refl _ _⟩
 ·have := longs_some l bq off cap 40 W (hE.below hE.lt hb) hz (by omega) (by decide)
  rw [hno] at this
  exact this
theorem do_goods_in (w : World) (B q : Nat) (b : Bk) (e : En) (h : RefB w B q b) (hz : SzE e) (hw : WfB b) (he : entErr e = 0) (hk : e.1 = kGoods) (h0 : findI nameG b.1 e.2.1.1 < 0) (h1 : b.1.length < 30) (hne : RefBg w B q b) :
  Calls Tryz.prog 29 #[.pointer (some ⟨q, 0, none⟩), agE e] w fun r w' => r = .returned (.int .i64 0) ∧ RefB w' B q (goodsB b e.2.1) ∧ Turn B w w' := by
 obtain ⟨i0, hi, hz0, hz1, hz2⟩ := info_parts Tryz.infoGs
 have hD := Dw.new h e
 have hC := terr_any e (w.alloc (celE e)) hz
 have HF : Hid (∀ W, RefB W B q b → Calls Tryz.prog 61 #[.pointer (some ⟨q, 0, none⟩), .string e.2.1.1] W fun r w' => r = .returned (.int .i64 (findI nameG b.1 e.2.1.1)) ∧ w' = W) := fun W hW => findG_any W B q b e.2.1.1 hW (by have := hw.gl; omega)
 rw [he] at hC
 have e1 : (e.1.toList == kGoods.data.toList) = true := same_wordR hk
 generalize findI nameG b.1 e.2.1.1 = F at *
 have HWf : Hid (WfB b) := hw
 have HNe : Hid (RefBg w B q b) := hne
 have HK0 : Hid (B ≤ w.heap.size) := (by obtain ⟨_, _, _, h9, _, _, _, h8⟩ := h; exact Nat.le_trans h8 (Nat.le_of_lt (Array.getElem?_eq_some_iff.1 h9).1))
 have h1' : (b.1.length : Int) < 30 := by omega
 clear hz h he hk hw hne
 obtain ⟨ak, ⟨agc, agp⟩, ⟨ali, alc, alu, alk⟩, ⟨afz, afr, afb⟩, ⟨atz, atr, atb⟩, an⟩ := e
 unfold agE celE at *
 simp only at *
 have HC : Hid (Calls Tryz.prog 60 _ _ _) := hC
 have HD : Hid (Dw _ _ _ _ _ _) := hD
 clear hC hD
 go_enter Tryz.func29, Tryz.ntmps29
 go_wp2_with (first
  | (go_at_call 60; refine HC.out.mono ?_; rintro r w1 ⟨rfl, hb1⟩; have h1w := HD.out.go hb1; obtain ⟨c0, c1, c2, c3, c4, c5, c6, c7, c8, c9, c10, c11, c12, c13⟩ := h1w.ent.at; simp only at c0 c1 c2 c3 c4 c5 c6 c7 c8 c9 c10 c11 c12 c13; obtain ⟨aG, cG, aL, cL, vS', s0, s1, s2, sq⟩ := h1w.book.slices; have H1 : Hid (Dw _ _ _ _ _ _) := h1w; clear hb1 h1w)
  | (go_at_call 61; refine (HF.out _ H1.out.book).mono ?_; rintro r w2 ⟨rfl, hw⟩; have hw' := hw.symm; subst hw'))
 obtain ⟨g, cap, vL, vS, k1, k2, k3, k4, k5, k6⟩ := HNe.out.below H1.out.below
 clear c0 c1 c2 c3 c4 c5 c6 c7 c8 c9 c10 c11 c12 c13 s0 s1 s2 HF HC HD HNe 
 generalize hln : b.1.length = ln at *
 have HN : Hid (ln = b.1.length) := hln.symm
 have HK1 : Hid (w1.heap[q]? = some (.cells #[.slice (some ⟨g, 0, none⟩) ln cap, vL, vS] 78 (0, 0))) := k1
 have HK2 : Hid (encGs.Row w1 B 120 (.slice (some ⟨g, 0, none⟩) ln cap) b.1) := k2
 clear hln k1 k2
 go_loopw [6] (fun i wr => ∃ k : Nat, k ≤ ln ∧ i = .int .i64 k ∧ Below w1.heap.size w1 wr ∧ ∀ x ∈ b.1.take k, zLt (nameG x) agc = true) (fun i _ => ln - (RowKit.intOf i).toNat)
 case atStart => exact ⟨0, Nat.zero_le _, rfl, Below.refl _ _, by simp⟩
 case round =>
  obtain ⟨k, hk, rfl, hwr, hno⟩ := hrel
  have HNo : Hid (∀ x ∈ b.1.take k, zLt (nameG x) agc = true) := hno
  have hDr := H1.out.go hwr
  have cr := hDr.ent.at.c1
  simp only at cr
  have hblk : wr.heap[q]? = some (.cells #[.slice (some ⟨g, 0, none⟩) ln cap, vL, vS] 78 (0, 0)) := (hwr.block q (Array.getElem?_eq_some_iff.1 HK1.out).1).trans HK1.out
  have sr : wr.cell? ⟨q, 0, none⟩ = some (.slice (some ⟨g, 0, none⟩) ln cap) := by rw [cell_of_heap hblk]; rfl
  have HDr : Hid (Dw _ _ _ _ _ _) := hDr
  have HBr : Hid (wr.heap[q]? = _) := hblk
  clear hno hDr hblk
  by_cases hlt : k < ln
  ·have hkm : k < b.1.length := by rw [← HN.out]; exact hlt
   obtain ⟨x, hx⟩ : ∃ x, b.1[k]? = some x := ⟨_, List.getElem?_eq_getElem hkm⟩
   have HX : Hid (b.1[k]? = some x) := hx
   have c0 : wr.cell? ⟨g, k * 6, none⟩ = some (.string x.1.1) := by
    rcases (HK2.out.below hwr).forms with ⟨h9, _⟩ | ⟨g', cap', hv, _, _, _, _, hrow⟩
    ·cases h9
    ·injection hv with a1 a2 a3
     injection a1 with a1
     injection a1 with a1
     subst a1
     exact (hrow k x 0 hx (by decide)).trans rfl
   clear hx hkm
   generalize hy : x.1.1 = y at *
   have HY : Hid (x.1.1 = y) := hy
   clear hy
   have e3 := less_eq y agc
   cases hzl : zLt y agc with
   | true =>
    rw [hzl] at e3
    have HK : Hid (zLt (nameG x) agc = true) := by show zLt x.1.1 _ = true; rw [HY.out]; exact hzl
    clear hzl
    go_wp2
    go_quiet (fail)
    go_wp2
    go_roundw
    case rel => exact ⟨k + 1, by omega, by go_num, below_drewN hwr _, takeI_next HX.out HNo.out HK.out⟩
    case measure => simp [RowKit.intOf]; omega
   | false =>
    rw [hzl] at e3
    have HK : Hid (aheadC nameG agc b.1 = k) := aheadC_eq _ _ _ _ (by rw [← HN.out]; omega) HNo.out (fun z hz => by
     rw [HX.out] at hz
     injection hz with hz
     rw [← hz]
     show zLt x.1.1 _ = false
     rw [HY.out]; exact hzl)
    clear hzl
    go_wp2
    go_quiet (fail)
    have hbx : Below w1.heap.size w1 (wr.drewN nq) := below_drewN hwr nq
    have hDx := H1.out.go hbx
    have hbk : (wr.drewN nq).heap[q]? = some (.cells #[.slice (some ⟨g, 0, none⟩) ln cap, vL, vS] 78 (0, 0)) := (hbx.block q (Array.getElem?_eq_some_iff.1 HK1.out).1).trans HK1.out
    have HR : Hid (encGs.Row (wr.drewN nq) B 120 (.slice (some ⟨g, 0, none⟩) b.1.length cap) b.1) := by
     show Enc.Row _ _ _ _ _ _
     rw [← HN.out]; exact HK2.out.below hbx
    have HOth := k3.below hbx
    have HSt := k4.below hbx
    clear cr sr HDr HBr hwr
    generalize (wr.drewN nq) = W at *
    have HLe : Hid (0 + k ≤ b.1.length) := by show _ ≤ _; rw [← HN.out]; omega
    have HLe2 : Hid (k + (ln - k) ≤ b.1.length) := by show _ ≤ _; rw [← HN.out]; omega
    have HFin : Hid (∀ (V : World) (v : Value), V.ownsRow W.heap.size 120 6 v (0 + k + 1 + (ln - k)) ([] ++ encGs.flat ((b.1.drop 0).take k) ++ encGs.enc (((agc, agp), zeroSu) : Gs) ++ encGs.flat ((b.1.drop k).take (ln - k))) → encGs.Row V W.heap.size 120 v (insC nameG b.1 (((agc, agp), zeroSu) : Gs))) := by
     show ∀ (V : World) (v : Value), _ → _
     intro V v hv
     have e1 : insC nameG b.1 (((agc, agp), zeroSu) : Gs) = b.1.take k ++ (((agc, agp), zeroSu) : Gs) :: b.1.drop k := by
      unfold insC
      rw [show aheadC nameG (nameG (((agc, agp), zeroSu) : Gs)) b.1 = k from HK.out]
     have e2 : encGs.flat (b.1.take k ++ (((agc, agp), zeroSu) : Gs) :: b.1.drop k) = [] ++ encGs.flat ((b.1.drop 0).take k) ++ encGs.enc (((agc, agp), zeroSu) : Gs) ++ encGs.flat ((b.1.drop k).take (ln - k)) := by
      rw [List.take_of_length_le (l := b.1.drop k) (by rw [List.length_drop, ← HN.out]; omega), List.nil_append, List.drop_zero, encGs.flat_append, List.append_assoc]
      congr 1
     have e3 : (b.1.take k ++ (((agc, agp), zeroSu) : Gs) :: b.1.drop k).length = 0 + k + 1 + (ln - k) := by
      rw [List.length_append, List.length_cons, List.length_take, List.length_drop, ← HN.out]
      omega
     unfold Enc.Row
     rw [e1, e2, e3]
     exact hv
    have hks : (k : Int) ≤ (ln : Int) := by omega
    have hkc : (k : Int) ≤ (cap : Int) := by omega
    have hlc : (ln : Int) ≤ (cap : Int) := by omega
    have oD := hDx.go (Below.refl _ W); have ob : W.heap[q]? = some (.cells #[.slice (some ⟨g, 0, none⟩) ln cap, vL, vS] 78 (0, 0)) := ((Below.refl _ W).block q (Array.getElem?_eq_some_iff.1 hbk).1).trans hbk; have os : W.cell? ⟨q, 0, none⟩ = some (.slice (some ⟨g, 0, none⟩) ln cap) := (by rw [cell_of_heap ob]; rfl); have ofz : W.frozen? ⟨q, 0, none⟩ = false := frozen_of_heap ob _; have o1 := oD.ent.at.c1; simp only at o1; have o2 := oD.ent.at.c2; simp only at o2; have oH : Hid (Dw _ _ _ _ _ _) := oD; have oB : Hid (W.heap[q]? = _) := ob; clear oD ob
    have HBq : Hid (B ≤ W.heap.size) := Nat.le_trans k5 (Nat.le_of_lt (Array.getElem?_eq_some_iff.1 hbk).1)
    have hbB : Hid (Turn B w W) := Turn.of hDx.below (by have := HK0.out; omega)
    go_wp2_with (first
     | (at_builtin; refine wpList_append_own _ rfl _ _ 73 rfl W.heap.size 120 i0 (.agg #[.string ⟨#[]⟩, .int .i64 0, .int .i64 0, .int .i64 0, .int .i64 0, .int .i64 0]) 6 56 Tryz.underlying73 hi hz0 hz1 hz2 rfl (by decide) (.slice none 0 0) 0 [] rfl (World.ownsRow_nil _ _ _ _) ⟨g, 0, none⟩ k _ (encGs.flat ((b.1.drop 0).take k)) rfl (encGs.news_len _ 0 k HLe.out) (HR.out.news 0 k 0 HLe.out (Or.inr (by simp))) (encGs.flat_cell _) (by unfold maxLen; omega) (by omega) (Nat.le_refl _) ?_; intro v1 W1 own1 gr1 _; have bW1 : Below W.heap.size W W1 := (Below.refl _ W).grown gr1 (Nat.le_refl _) (fun k hk => by cases hk); have pD := hDx.go bW1; have pb : W1.heap[q]? = some (.cells #[.slice (some ⟨g, 0, none⟩) ln cap, vL, vS] 78 (0, 0)) := (bW1.block q (Array.getElem?_eq_some_iff.1 hbk).1).trans hbk; have ps : W1.cell? ⟨q, 0, none⟩ = some (.slice (some ⟨g, 0, none⟩) ln cap) := (by rw [cell_of_heap pb]; rfl); have pfz : W1.frozen? ⟨q, 0, none⟩ = false := frozen_of_heap pb _; have p1 := pD.ent.at.c1; simp only at p1; have p2 := pD.ent.at.c2; simp only at p2; have pH : Hid (Dw _ _ _ _ _ _) := pD; have pB : Hid (W1.heap[q]? = _) := pb; clear pD pb; have O1 : Hid (W1.ownsRow W.heap.size 120 6 v1 (0 + k) ([] ++ encGs.flat ((b.1.drop 0).take k))) := own1; have BW1 : Hid (Below _ _ _) := bW1; clear own1 gr1 bW1)
     | (at_builtin; refine wpList_append_own _ rfl _ _ 73 rfl W.heap.size 120 i0 (.agg #[.string ⟨#[]⟩, .int .i64 0, .int .i64 0, .int .i64 0, .int .i64 0, .int .i64 0]) 6 56 Tryz.underlying73 hi hz0 hz1 hz2 rfl (by decide) v1 (0 + k) ([] ++ encGs.flat ((b.1.drop 0).take k)) rfl (O1.out.alloc _) ⟨W1.heap.size, 0, none⟩ 1 1 (encGs.enc (((agc, agp), zeroSu) : Gs)) rfl rfl (World.news_of_block (heap_alloc_new W1 _)) (encGs.one _) (by unfold maxLen; omega) (by omega) (by have := BW1.out.size; simp; omega) ?_; intro v2 W2 own2 gr2 _; have bW2 : Below W.heap.size W W2 := (BW1.out.alloc BW1.out.size _).grown gr2 (by have := BW1.out.size; simp; omega) (fun k hk => (O1.out.lt k hk).1); have sD := hDx.go bW2; have sb : W2.heap[q]? = some (.cells #[.slice (some ⟨g, 0, none⟩) ln cap, vL, vS] 78 (0, 0)) := (bW2.block q (Array.getElem?_eq_some_iff.1 hbk).1).trans hbk; have ss : W2.cell? ⟨q, 0, none⟩ = some (.slice (some ⟨g, 0, none⟩) ln cap) := (by rw [cell_of_heap sb]; rfl); have sfz : W2.frozen? ⟨q, 0, none⟩ = false := frozen_of_heap sb _; have s1 := sD.ent.at.c1; simp only at s1; have s2 := sD.ent.at.c2; simp only at s2; have sH : Hid (Dw _ _ _ _ _ _) := sD; have sB : Hid (W2.heap[q]? = _) := sb; clear sD sb; have O2 : Hid (W2.ownsRow W.heap.size 120 6 v2 (0 + k + 1) ([] ++ encGs.flat ((b.1.drop 0).take k) ++ encGs.enc (((agc, agp), zeroSu) : Gs))) := own2; have BW2 : Hid (Below _ _ _) := bW2; clear own2 gr2 bW2)
     | (at_builtin; refine wpList_append_own _ rfl _ _ 73 rfl W.heap.size 120 i0 (.agg #[.string ⟨#[]⟩, .int .i64 0, .int .i64 0, .int .i64 0, .int .i64 0, .int .i64 0]) 6 56 Tryz.underlying73 hi hz0 hz1 hz2 rfl (by decide) v2 (0 + k + 1) ([] ++ encGs.flat ((b.1.drop 0).take k) ++ encGs.enc (((agc, agp), zeroSu) : Gs)) rfl O2.out ⟨g, _, none⟩ (ln - k) _ (encGs.flat ((b.1.drop k).take (ln - k))) rfl (encGs.news_len _ k (ln - k) HLe2.out) ((HR.out.below BW2.out).news k (ln - k) _ HLe2.out (by first | exact Or.inr rfl | exact Or.inl (by omega) | (right; simp; omega))) (encGs.flat_cell _) (by unfold maxLen; omega) (by omega) BW2.out.size ?_; intro v3 W3 own3 gr3 _; have bW3 : Below W.heap.size W W3 := BW2.out.grown gr3 BW2.out.size (fun k hk => (O2.out.lt k hk).1); have tD := hDx.go bW3; have tb : W3.heap[q]? = some (.cells #[.slice (some ⟨g, 0, none⟩) ln cap, vL, vS] 78 (0, 0)) := (bW3.block q (Array.getElem?_eq_some_iff.1 hbk).1).trans hbk; have ts : W3.cell? ⟨q, 0, none⟩ = some (.slice (some ⟨g, 0, none⟩) ln cap) := (by rw [cell_of_heap tb]; rfl); have tfz : W3.frozen? ⟨q, 0, none⟩ = false := frozen_of_heap tb _; have t1 := tD.ent.at.c1; simp only at t1; have t2 := tD.ent.at.c2; simp only at t2; have tH : Hid (Dw _ _ _ _ _ _) := tD; have tB : Hid (W3.heap[q]? = _) := tb; clear tD tb; have O3 := HFin.out W3 v3 own3; obtain ⟨a3, c3, rfl⟩ := Enc.Row.shape O3; have OO3 : Hid (Enc.Row _ _ _ _ _ _) := O3; have BW3 : Hid (Below _ _ _) := bW3; clear own3 gr3 bW3 O3))
    go_ret
    refine ⟨rfl, ?_, ?_⟩
    ·exact RefB.setG tB.out (OO3.out.base HBq.out) ((HOth.below BW3.out)) ((HSt.below BW3.out)) k5
    ·exact (hbB.out.trans (Turn.of BW3.out HBq.out)).set k5 (Or.inl rfl) tB.out _
  ·have HK : Hid (aheadC nameG agc b.1 = k) := aheadC_eq _ _ _ _ (by rw [← HN.out]; omega) HNo.out (fun z hz => by
    have := (List.getElem?_eq_some_iff.1 hz).1
    rw [← HN.out] at this
    omega)
   go_wp2
   go_quiet (fail)
   have hbx : Below w1.heap.size w1 (wr.drewN nq) := below_drewN hwr nq
   have hDx := H1.out.go hbx
   have hbk : (wr.drewN nq).heap[q]? = some (.cells #[.slice (some ⟨g, 0, none⟩) ln cap, vL, vS] 78 (0, 0)) := (hbx.block q (Array.getElem?_eq_some_iff.1 HK1.out).1).trans HK1.out
   have HR : Hid (encGs.Row (wr.drewN nq) B 120 (.slice (some ⟨g, 0, none⟩) b.1.length cap) b.1) := by
    show Enc.Row _ _ _ _ _ _
    rw [← HN.out]; exact HK2.out.below hbx
   have HOth := k3.below hbx
   have HSt := k4.below hbx
   clear cr sr HDr HBr hwr
   generalize (wr.drewN nq) = W at *
   have HLe : Hid (0 + k ≤ b.1.length) := by show _ ≤ _; rw [← HN.out]; omega
   have HLe2 : Hid (k + (ln - k) ≤ b.1.length) := by show _ ≤ _; rw [← HN.out]; omega
   have HFin : Hid (∀ (V : World) (v : Value), V.ownsRow W.heap.size 120 6 v (0 + k + 1 + (ln - k)) ([] ++ encGs.flat ((b.1.drop 0).take k) ++ encGs.enc (((agc, agp), zeroSu) : Gs) ++ encGs.flat ((b.1.drop k).take (ln - k))) → encGs.Row V W.heap.size 120 v (insC nameG b.1 (((agc, agp), zeroSu) : Gs))) := by
    show ∀ (V : World) (v : Value), _ → _
    intro V v hv
    have e1 : insC nameG b.1 (((agc, agp), zeroSu) : Gs) = b.1.take k ++ (((agc, agp), zeroSu) : Gs) :: b.1.drop k := by
     unfold insC
     rw [show aheadC nameG (nameG (((agc, agp), zeroSu) : Gs)) b.1 = k from HK.out]
    have e2 : encGs.flat (b.1.take k ++ (((agc, agp), zeroSu) : Gs) :: b.1.drop k) = [] ++ encGs.flat ((b.1.drop 0).take k) ++ encGs.enc (((agc, agp), zeroSu) : Gs) ++ encGs.flat ((b.1.drop k).take (ln - k)) := by
     rw [List.take_of_length_le (l := b.1.drop k) (by rw [List.length_drop, ← HN.out]; omega), List.nil_append, List.drop_zero, encGs.flat_append, List.append_assoc]
     congr 1
    have e3 : (b.1.take k ++ (((agc, agp), zeroSu) : Gs) :: b.1.drop k).length = 0 + k + 1 + (ln - k) := by
     rw [List.length_append, List.length_cons, List.length_take, List.length_drop, ← HN.out]
     omega
    unfold Enc.Row
    rw [e1, e2, e3]
    exact hv
   have hks : (k : Int) ≤ (ln : Int) := by omega
   have hkc : (k : Int) ≤ (cap : Int) := by omega
   have hlc : (ln : Int) ≤ (cap : Int) := by omega
   have oD := hDx.go (Below.refl _ W); have ob : W.heap[q]? = some (.cells #[.slice (some ⟨g, 0, none⟩) ln cap, vL, vS] 78 (0, 0)) := ((Below.refl _ W).block q (Array.getElem?_eq_some_iff.1 hbk).1).trans hbk; have os : W.cell? ⟨q, 0, none⟩ = some (.slice (some ⟨g, 0, none⟩) ln cap) := (by rw [cell_of_heap ob]; rfl); have ofz : W.frozen? ⟨q, 0, none⟩ = false := frozen_of_heap ob _; have o1 := oD.ent.at.c1; simp only at o1; have o2 := oD.ent.at.c2; simp only at o2; have oH : Hid (Dw _ _ _ _ _ _) := oD; have oB : Hid (W.heap[q]? = _) := ob; clear oD ob
   have HBq : Hid (B ≤ W.heap.size) := Nat.le_trans k5 (Nat.le_of_lt (Array.getElem?_eq_some_iff.1 hbk).1)
   have hbB : Hid (Turn B w W) := Turn.of hDx.below (by have := HK0.out; omega)
   by_cases hck : cap = k
   all_goals
    go_wp2_with (first
     | (at_builtin; refine wpList_append_own _ rfl _ _ 73 rfl W.heap.size 120 i0 (.agg #[.string ⟨#[]⟩, .int .i64 0, .int .i64 0, .int .i64 0, .int .i64 0, .int .i64 0]) 6 56 Tryz.underlying73 hi hz0 hz1 hz2 rfl (by decide) (.slice none 0 0) 0 [] rfl (World.ownsRow_nil _ _ _ _) ⟨g, 0, none⟩ k _ (encGs.flat ((b.1.drop 0).take k)) rfl (encGs.news_len _ 0 k HLe.out) (HR.out.news 0 k 0 HLe.out (Or.inr (by simp))) (encGs.flat_cell _) (by unfold maxLen; omega) (by omega) (Nat.le_refl _) ?_; intro v1 W1 own1 gr1 _; have bW1 : Below W.heap.size W W1 := (Below.refl _ W).grown gr1 (Nat.le_refl _) (fun k hk => by cases hk); have pD := hDx.go bW1; have pb : W1.heap[q]? = some (.cells #[.slice (some ⟨g, 0, none⟩) ln cap, vL, vS] 78 (0, 0)) := (bW1.block q (Array.getElem?_eq_some_iff.1 hbk).1).trans hbk; have ps : W1.cell? ⟨q, 0, none⟩ = some (.slice (some ⟨g, 0, none⟩) ln cap) := (by rw [cell_of_heap pb]; rfl); have pfz : W1.frozen? ⟨q, 0, none⟩ = false := frozen_of_heap pb _; have p1 := pD.ent.at.c1; simp only at p1; have p2 := pD.ent.at.c2; simp only at p2; have pH : Hid (Dw _ _ _ _ _ _) := pD; have pB : Hid (W1.heap[q]? = _) := pb; clear pD pb; have O1 : Hid (W1.ownsRow W.heap.size 120 6 v1 (0 + k) ([] ++ encGs.flat ((b.1.drop 0).take k))) := own1; have BW1 : Hid (Below _ _ _) := bW1; clear own1 gr1 bW1)
     | (at_builtin; refine wpList_append_own _ rfl _ _ 73 rfl W.heap.size 120 i0 (.agg #[.string ⟨#[]⟩, .int .i64 0, .int .i64 0, .int .i64 0, .int .i64 0, .int .i64 0]) 6 56 Tryz.underlying73 hi hz0 hz1 hz2 rfl (by decide) v1 (0 + k) ([] ++ encGs.flat ((b.1.drop 0).take k)) rfl (O1.out.alloc _) ⟨W1.heap.size, 0, none⟩ 1 1 (encGs.enc (((agc, agp), zeroSu) : Gs)) rfl rfl (World.news_of_block (heap_alloc_new W1 _)) (encGs.one _) (by unfold maxLen; omega) (by omega) (by have := BW1.out.size; simp; omega) ?_; intro v2 W2 own2 gr2 _; have bW2 : Below W.heap.size W W2 := (BW1.out.alloc BW1.out.size _).grown gr2 (by have := BW1.out.size; simp; omega) (fun k hk => (O1.out.lt k hk).1); have sD := hDx.go bW2; have sb : W2.heap[q]? = some (.cells #[.slice (some ⟨g, 0, none⟩) ln cap, vL, vS] 78 (0, 0)) := (bW2.block q (Array.getElem?_eq_some_iff.1 hbk).1).trans hbk; have ss : W2.cell? ⟨q, 0, none⟩ = some (.slice (some ⟨g, 0, none⟩) ln cap) := (by rw [cell_of_heap sb]; rfl); have sfz : W2.frozen? ⟨q, 0, none⟩ = false := frozen_of_heap sb _; have s1 := sD.ent.at.c1; simp only at s1; have s2 := sD.ent.at.c2; simp only at s2; have sH : Hid (Dw _ _ _ _ _ _) := sD; have sB : Hid (W2.heap[q]? = _) := sb; clear sD sb; have O2 : Hid (W2.ownsRow W.heap.size 120 6 v2 (0 + k + 1) ([] ++ encGs.flat ((b.1.drop 0).take k) ++ encGs.enc (((agc, agp), zeroSu) : Gs))) := own2; have BW2 : Hid (Below _ _ _) := bW2; clear own2 gr2 bW2)
     | (at_builtin; refine wpList_append_own _ rfl _ _ 73 rfl W.heap.size 120 i0 (.agg #[.string ⟨#[]⟩, .int .i64 0, .int .i64 0, .int .i64 0, .int .i64 0, .int .i64 0]) 6 56 Tryz.underlying73 hi hz0 hz1 hz2 rfl (by decide) v2 (0 + k + 1) ([] ++ encGs.flat ((b.1.drop 0).take k) ++ encGs.enc (((agc, agp), zeroSu) : Gs)) rfl O2.out ⟨g, _, none⟩ (ln - k) _ (encGs.flat ((b.1.drop k).take (ln - k))) rfl (encGs.news_len _ k (ln - k) HLe2.out) ((HR.out.below BW2.out).news k (ln - k) _ HLe2.out (by first | exact Or.inr rfl | exact Or.inl (by omega) | (right; simp; omega))) (encGs.flat_cell _) (by unfold maxLen; omega) (by omega) BW2.out.size ?_; intro v3 W3 own3 gr3 _; have bW3 : Below W.heap.size W W3 := BW2.out.grown gr3 BW2.out.size (fun k hk => (O2.out.lt k hk).1); have tD := hDx.go bW3; have tb : W3.heap[q]? = some (.cells #[.slice (some ⟨g, 0, none⟩) ln cap, vL, vS] 78 (0, 0)) := (bW3.block q (Array.getElem?_eq_some_iff.1 hbk).1).trans hbk; have ts : W3.cell? ⟨q, 0, none⟩ = some (.slice (some ⟨g, 0, none⟩) ln cap) := (by rw [cell_of_heap tb]; rfl); have tfz : W3.frozen? ⟨q, 0, none⟩ = false := frozen_of_heap tb _; have t1 := tD.ent.at.c1; simp only at t1; have t2 := tD.ent.at.c2; simp only at t2; have tH : Hid (Dw _ _ _ _ _ _) := tD; have tB : Hid (W3.heap[q]? = _) := tb; clear tD tb; have O3 := HFin.out W3 v3 own3; obtain ⟨a3, c3, rfl⟩ := Enc.Row.shape O3; have OO3 : Hid (Enc.Row _ _ _ _ _ _) := O3; have BW3 : Hid (Below _ _ _) := bW3; clear own3 gr3 bW3 O3))
    go_ret
    refine ⟨rfl, ?_, ?_⟩
    ·exact RefB.setG tB.out (OO3.out.base HBq.out) ((HOth.below BW3.out)) ((HSt.below BW3.out)) k5
    ·exact (hbB.out.trans (Turn.of BW3.out HBq.out)).set k5 (Or.inl rfl) tB.out _
theorem do_lot_in (w : World) (B q : Nat) (b : Bk) (e : En) (h : RefB w B q b) (hz : SzE e) (hw : WfB b) (he : entErr e = 0) (hk : e.1 = kLot) (h0 : findI nameL b.2.1 e.2.2.1.1 < 0) (h2 : 0 ≤ findI nameG b.1 e.2.2.1.2.1) (h1 : b.2.1.length < 60) (hne : RefBl w B q b) :
  Calls Tryz.prog 29 #[.pointer (some ⟨q, 0, none⟩), agE e] w fun r w' => r = .returned (.int .i64 0) ∧ RefB w' B q (lotB b e.2.2.1) ∧ Turn B w w' := by
 obtain ⟨i0, hi, hz0, hz1, hz2⟩ := info_parts Tryz.infoLh
 have hD := Dw.new h e
 have hC := terr_any e (w.alloc (celE e)) hz
 have HL : Hid (∀ W, RefB W B q b → Calls Tryz.prog 51 #[.pointer (some ⟨q, 0, none⟩), .string e.2.2.1.1] W fun r w' => r = .returned (.int .i64 (findI nameL b.2.1 e.2.2.1.1)) ∧ w' = W) := fun W hW => findL_any W B q b e.2.2.1.1 hW (by have := hw.ll; omega)
 have HF : Hid (∀ W, RefB W B q b → Calls Tryz.prog 61 #[.pointer (some ⟨q, 0, none⟩), .string e.2.2.1.2.1] W fun r w' => r = .returned (.int .i64 (findI nameG b.1 e.2.2.1.2.1)) ∧ w' = W) := fun W hW => findG_any W B q b e.2.2.1.2.1 hW (by have := hw.gl; omega)
 rw [he] at hC
 have e1 : (e.1.toList == kGoods.data.toList) = false := other_word (by rw [hk]; decide)
 have e2 : (e.1.toList == kLot.data.toList) = true := same_wordR hk
 generalize findI nameL b.2.1 e.2.2.1.1 = F at *
 generalize findI nameG b.1 e.2.2.1.2.1 = F1 at *
 have HWf : Hid (WfB b) := hw
 have HNe : Hid (RefBl w B q b) := hne
 have HK0 : Hid (B ≤ w.heap.size) := (by obtain ⟨_, _, _, h9, _, _, _, h8⟩ := h; exact Nat.le_trans h8 (Nat.le_of_lt (Array.getElem?_eq_some_iff.1 h9).1))
 have h1' : (b.2.1.length : Int) < 60 := by omega
 clear hz h he hk hw hne
 obtain ⟨ak, ⟨agc, agp⟩, ⟨ali, alc, alu, alk⟩, ⟨afz, afr, afb⟩, ⟨atz, atr, atb⟩, an⟩ := e
 unfold agE celE at *
 simp only at *
 have HC : Hid (Calls Tryz.prog 60 _ _ _) := hC
 have HD : Hid (Dw _ _ _ _ _ _) := hD
 clear hC hD
 go_enter Tryz.func29, Tryz.ntmps29
 go_wp2_with (first
  | (go_at_call 60; refine HC.out.mono ?_; rintro r w1 ⟨rfl, hb1⟩; have h1w := HD.out.go hb1; obtain ⟨c0, c1, c2, c3, c4, c5, c6, c7, c8, c9, c10, c11, c12, c13⟩ := h1w.ent.at; simp only at c0 c1 c2 c3 c4 c5 c6 c7 c8 c9 c10 c11 c12 c13; obtain ⟨aG, cG, aL, cL, vS', s0, s1, s2, sq⟩ := h1w.book.slices; have H1 : Hid (Dw _ _ _ _ _ _) := h1w; clear hb1 h1w)
  | (go_at_call 51; refine (HL.out _ H1.out.book).mono ?_; rintro r w2 ⟨rfl, hw⟩; have hw' := hw.symm; subst hw')
  | (go_at_call 61; refine (HF.out _ H1.out.book).mono ?_; rintro r w2 ⟨rfl, hw⟩; have hw' := hw.symm; subst hw'))
 obtain ⟨g, cap, vG, vS, k1, k2, k3, k4, k5, k6⟩ := HNe.out.below H1.out.below
 clear c0 c1 c2 c3 c4 c5 c6 c7 c8 c9 c10 c11 c12 c13 s0 s1 s2 HF HC HD HNe HL
 generalize hln : b.2.1.length = ln at *
 have HN : Hid (ln = b.2.1.length) := hln.symm
 have HK1 : Hid (w1.heap[q]? = some (.cells #[vG, .slice (some ⟨g, 0, none⟩) ln cap, vS] 78 (0, 0))) := k1
 have HK2 : Hid (encLh.Row w1 B 131 (.slice (some ⟨g, 0, none⟩) ln cap) b.2.1) := k2
 clear hln k1 k2
 go_loopw [8] (fun i wr => ∃ k : Nat, k ≤ ln ∧ i = .int .i64 k ∧ Below w1.heap.size w1 wr ∧ ∀ x ∈ b.2.1.take k, zLt (nameL x) ali = true) (fun i _ => ln - (RowKit.intOf i).toNat)
 case atStart => exact ⟨0, Nat.zero_le _, rfl, Below.refl _ _, by simp⟩
 case round =>
  obtain ⟨k, hk, rfl, hwr, hno⟩ := hrel
  have HNo : Hid (∀ x ∈ b.2.1.take k, zLt (nameL x) ali = true) := hno
  have hDr := H1.out.go hwr
  have cr := hDr.ent.at.c3
  simp only at cr
  have hblk : wr.heap[q]? = some (.cells #[vG, .slice (some ⟨g, 0, none⟩) ln cap, vS] 78 (0, 0)) := (hwr.block q (Array.getElem?_eq_some_iff.1 HK1.out).1).trans HK1.out
  have sr : wr.cell? ⟨q, 1, none⟩ = some (.slice (some ⟨g, 0, none⟩) ln cap) := by rw [cell_of_heap hblk]; rfl
  have HDr : Hid (Dw _ _ _ _ _ _) := hDr
  have HBr : Hid (wr.heap[q]? = _) := hblk
  clear hno hDr hblk
  by_cases hlt : k < ln
  ·have hkm : k < b.2.1.length := by rw [← HN.out]; exact hlt
   obtain ⟨x, hx⟩ : ∃ x, b.2.1[k]? = some x := ⟨_, List.getElem?_eq_getElem hkm⟩
   have HX : Hid (b.2.1[k]? = some x) := hx
   have c0 : wr.cell? ⟨g, k * 5, none⟩ = some (.string x.1.1) := by
    rcases (HK2.out.below hwr).forms with ⟨h9, _⟩ | ⟨g', cap', hv, _, _, _, _, hrow⟩
    ·cases h9
    ·injection hv with a1 a2 a3
     injection a1 with a1
     injection a1 with a1
     subst a1
     exact (hrow k x 0 hx (by decide)).trans rfl
   clear hx hkm
   generalize hy : x.1.1 = y at *
   have HY : Hid (x.1.1 = y) := hy
   clear hy
   have e3 := less_eq y ali
   cases hzl : zLt y ali with
   | true =>
    rw [hzl] at e3
    have HK : Hid (zLt (nameL x) ali = true) := by show zLt x.1.1 _ = true; rw [HY.out]; exact hzl
    clear hzl
    go_wp2
    go_quiet (fail)
    go_wp2
    go_roundw
    case rel => exact ⟨k + 1, by omega, by go_num, below_drewN hwr _, takeI_next HX.out HNo.out HK.out⟩
    case measure => simp [RowKit.intOf]; omega
   | false =>
    rw [hzl] at e3
    have HK : Hid (aheadC nameL ali b.2.1 = k) := aheadC_eq _ _ _ _ (by rw [← HN.out]; omega) HNo.out (fun z hz => by
     rw [HX.out] at hz
     injection hz with hz
     rw [← hz]
     show zLt x.1.1 _ = false
     rw [HY.out]; exact hzl)
    clear hzl
    go_wp2
    go_quiet (fail)
    have hbx : Below w1.heap.size w1 (wr.drewN nq) := below_drewN hwr nq
    have hDx := H1.out.go hbx
    have hbk : (wr.drewN nq).heap[q]? = some (.cells #[vG, .slice (some ⟨g, 0, none⟩) ln cap, vS] 78 (0, 0)) := (hbx.block q (Array.getElem?_eq_some_iff.1 HK1.out).1).trans HK1.out
    have HR : Hid (encLh.Row (wr.drewN nq) B 131 (.slice (some ⟨g, 0, none⟩) b.2.1.length cap) b.2.1) := by
     show Enc.Row _ _ _ _ _ _
     rw [← HN.out]; exact HK2.out.below hbx
    have HOth := k3.below hbx
    have HSt := k4.below hbx
    clear cr sr HDr HBr hwr
    generalize (wr.drewN nq) = W at *
    have HLe : Hid (0 + k ≤ b.2.1.length) := by show _ ≤ _; rw [← HN.out]; omega
    have HLe2 : Hid (k + (ln - k) ≤ b.2.1.length) := by show _ ≤ _; rw [← HN.out]; omega
    have HFin : Hid (∀ (V : World) (v : Value), V.ownsRow W.heap.size 131 5 v (0 + k + 1 + (ln - k)) ([] ++ encLh.flat ((b.2.1.drop 0).take k) ++ encLh.enc (((ali, alc, alu, alk), 0) : Lh) ++ encLh.flat ((b.2.1.drop k).take (ln - k))) → encLh.Row V W.heap.size 131 v (insC nameL b.2.1 (((ali, alc, alu, alk), 0) : Lh))) := by
     show ∀ (V : World) (v : Value), _ → _
     intro V v hv
     have e1 : insC nameL b.2.1 (((ali, alc, alu, alk), 0) : Lh) = b.2.1.take k ++ (((ali, alc, alu, alk), 0) : Lh) :: b.2.1.drop k := by
      unfold insC
      rw [show aheadC nameL (nameL (((ali, alc, alu, alk), 0) : Lh)) b.2.1 = k from HK.out]
     have e2 : encLh.flat (b.2.1.take k ++ (((ali, alc, alu, alk), 0) : Lh) :: b.2.1.drop k) = [] ++ encLh.flat ((b.2.1.drop 0).take k) ++ encLh.enc (((ali, alc, alu, alk), 0) : Lh) ++ encLh.flat ((b.2.1.drop k).take (ln - k)) := by
      rw [List.take_of_length_le (l := b.2.1.drop k) (by rw [List.length_drop, ← HN.out]; omega), List.nil_append, List.drop_zero, encLh.flat_append, List.append_assoc]
      congr 1
     have e3 : (b.2.1.take k ++ (((ali, alc, alu, alk), 0) : Lh) :: b.2.1.drop k).length = 0 + k + 1 + (ln - k) := by
      rw [List.length_append, List.length_cons, List.length_take, List.length_drop, ← HN.out]
      omega
     unfold Enc.Row
     rw [e1, e2, e3]
     exact hv
    have hks : (k : Int) ≤ (ln : Int) := by omega
    have hkc : (k : Int) ≤ (cap : Int) := by omega
    have hlc : (ln : Int) ≤ (cap : Int) := by omega
    have oD := hDx.go (Below.refl _ W); have ob : W.heap[q]? = some (.cells #[vG, .slice (some ⟨g, 0, none⟩) ln cap, vS] 78 (0, 0)) := ((Below.refl _ W).block q (Array.getElem?_eq_some_iff.1 hbk).1).trans hbk; have os : W.cell? ⟨q, 1, none⟩ = some (.slice (some ⟨g, 0, none⟩) ln cap) := (by rw [cell_of_heap ob]; rfl); have ofz : W.frozen? ⟨q, 1, none⟩ = false := frozen_of_heap ob _; have o3 := oD.ent.at.c3; simp only at o3; have o4 := oD.ent.at.c4; simp only at o4; have o5 := oD.ent.at.c5; simp only at o5; have o6 := oD.ent.at.c6; simp only at o6; have oH : Hid (Dw _ _ _ _ _ _) := oD; have oB : Hid (W.heap[q]? = _) := ob; clear oD ob
    have HBq : Hid (B ≤ W.heap.size) := Nat.le_trans k5 (Nat.le_of_lt (Array.getElem?_eq_some_iff.1 hbk).1)
    have hbB : Hid (Turn B w W) := Turn.of hDx.below (by have := HK0.out; omega)
    go_wp2_with (first
     | (at_builtin; refine wpList_append_own _ rfl _ _ 74 rfl W.heap.size 131 i0 (.agg #[.string ⟨#[]⟩, .string ⟨#[]⟩, .int .i64 0, .int .i64 0, .int .i64 0]) 5 56 Tryz.underlying74 hi hz0 hz1 hz2 rfl (by decide) (.slice none 0 0) 0 [] rfl (World.ownsRow_nil _ _ _ _) ⟨g, 0, none⟩ k _ (encLh.flat ((b.2.1.drop 0).take k)) rfl (encLh.news_len _ 0 k HLe.out) (HR.out.news 0 k 0 HLe.out (Or.inr (by simp))) (encLh.flat_cell _) (by unfold maxLen; omega) (by omega) (Nat.le_refl _) ?_; intro v1 W1 own1 gr1 _; have bW1 : Below W.heap.size W W1 := (Below.refl _ W).grown gr1 (Nat.le_refl _) (fun k hk => by cases hk); have pD := hDx.go bW1; have pb : W1.heap[q]? = some (.cells #[vG, .slice (some ⟨g, 0, none⟩) ln cap, vS] 78 (0, 0)) := (bW1.block q (Array.getElem?_eq_some_iff.1 hbk).1).trans hbk; have ps : W1.cell? ⟨q, 1, none⟩ = some (.slice (some ⟨g, 0, none⟩) ln cap) := (by rw [cell_of_heap pb]; rfl); have pfz : W1.frozen? ⟨q, 1, none⟩ = false := frozen_of_heap pb _; have p3 := pD.ent.at.c3; simp only at p3; have p4 := pD.ent.at.c4; simp only at p4; have p5 := pD.ent.at.c5; simp only at p5; have p6 := pD.ent.at.c6; simp only at p6; have pH : Hid (Dw _ _ _ _ _ _) := pD; have pB : Hid (W1.heap[q]? = _) := pb; clear pD pb; have O1 : Hid (W1.ownsRow W.heap.size 131 5 v1 (0 + k) ([] ++ encLh.flat ((b.2.1.drop 0).take k))) := own1; have BW1 : Hid (Below _ _ _) := bW1; clear own1 gr1 bW1)
     | (at_builtin; refine wpList_append_own _ rfl _ _ 74 rfl W.heap.size 131 i0 (.agg #[.string ⟨#[]⟩, .string ⟨#[]⟩, .int .i64 0, .int .i64 0, .int .i64 0]) 5 56 Tryz.underlying74 hi hz0 hz1 hz2 rfl (by decide) v1 (0 + k) ([] ++ encLh.flat ((b.2.1.drop 0).take k)) rfl (O1.out.alloc _) ⟨W1.heap.size, 0, none⟩ 1 1 (encLh.enc (((ali, alc, alu, alk), 0) : Lh)) rfl rfl (World.news_of_block (heap_alloc_new W1 _)) (encLh.one _) (by unfold maxLen; omega) (by omega) (by have := BW1.out.size; simp; omega) ?_; intro v2 W2 own2 gr2 _; have bW2 : Below W.heap.size W W2 := (BW1.out.alloc BW1.out.size _).grown gr2 (by have := BW1.out.size; simp; omega) (fun k hk => (O1.out.lt k hk).1); have sD := hDx.go bW2; have sb : W2.heap[q]? = some (.cells #[vG, .slice (some ⟨g, 0, none⟩) ln cap, vS] 78 (0, 0)) := (bW2.block q (Array.getElem?_eq_some_iff.1 hbk).1).trans hbk; have ss : W2.cell? ⟨q, 1, none⟩ = some (.slice (some ⟨g, 0, none⟩) ln cap) := (by rw [cell_of_heap sb]; rfl); have sfz : W2.frozen? ⟨q, 1, none⟩ = false := frozen_of_heap sb _; have s3 := sD.ent.at.c3; simp only at s3; have s4 := sD.ent.at.c4; simp only at s4; have s5 := sD.ent.at.c5; simp only at s5; have s6 := sD.ent.at.c6; simp only at s6; have sH : Hid (Dw _ _ _ _ _ _) := sD; have sB : Hid (W2.heap[q]? = _) := sb; clear sD sb; have O2 : Hid (W2.ownsRow W.heap.size 131 5 v2 (0 + k + 1) ([] ++ encLh.flat ((b.2.1.drop 0).take k) ++ encLh.enc (((ali, alc, alu, alk), 0) : Lh))) := own2; have BW2 : Hid (Below _ _ _) := bW2; clear own2 gr2 bW2)
     | (at_builtin; refine wpList_append_own _ rfl _ _ 74 rfl W.heap.size 131 i0 (.agg #[.string ⟨#[]⟩, .string ⟨#[]⟩, .int .i64 0, .int .i64 0, .int .i64 0]) 5 56 Tryz.underlying74 hi hz0 hz1 hz2 rfl (by decide) v2 (0 + k + 1) ([] ++ encLh.flat ((b.2.1.drop 0).take k) ++ encLh.enc (((ali, alc, alu, alk), 0) : Lh)) rfl O2.out ⟨g, _, none⟩ (ln - k) _ (encLh.flat ((b.2.1.drop k).take (ln - k))) rfl (encLh.news_len _ k (ln - k) HLe2.out) ((HR.out.below BW2.out).news k (ln - k) _ HLe2.out (by first | exact Or.inr rfl | exact Or.inl (by omega) | (right; simp; omega))) (encLh.flat_cell _) (by unfold maxLen; omega) (by omega) BW2.out.size ?_; intro v3 W3 own3 gr3 _; have bW3 : Below W.heap.size W W3 := BW2.out.grown gr3 BW2.out.size (fun k hk => (O2.out.lt k hk).1); have tD := hDx.go bW3; have tb : W3.heap[q]? = some (.cells #[vG, .slice (some ⟨g, 0, none⟩) ln cap, vS] 78 (0, 0)) := (bW3.block q (Array.getElem?_eq_some_iff.1 hbk).1).trans hbk; have ts : W3.cell? ⟨q, 1, none⟩ = some (.slice (some ⟨g, 0, none⟩) ln cap) := (by rw [cell_of_heap tb]; rfl); have tfz : W3.frozen? ⟨q, 1, none⟩ = false := frozen_of_heap tb _; have t3 := tD.ent.at.c3; simp only at t3; have t4 := tD.ent.at.c4; simp only at t4; have t5 := tD.ent.at.c5; simp only at t5; have t6 := tD.ent.at.c6; simp only at t6; have tH : Hid (Dw _ _ _ _ _ _) := tD; have tB : Hid (W3.heap[q]? = _) := tb; clear tD tb; have O3 := HFin.out W3 v3 own3; obtain ⟨a3, c3, rfl⟩ := Enc.Row.shape O3; have OO3 : Hid (Enc.Row _ _ _ _ _ _) := O3; have BW3 : Hid (Below _ _ _) := bW3; clear own3 gr3 bW3 O3))
    go_ret
    refine ⟨rfl, ?_, ?_⟩
    ·exact RefB.setL tB.out (OO3.out.base HBq.out) ((HOth.below BW3.out)) ((HSt.below BW3.out)) k5
    ·exact (hbB.out.trans (Turn.of BW3.out HBq.out)).set k5 (Or.inl rfl) tB.out _
  ·have HK : Hid (aheadC nameL ali b.2.1 = k) := aheadC_eq _ _ _ _ (by rw [← HN.out]; omega) HNo.out (fun z hz => by
    have := (List.getElem?_eq_some_iff.1 hz).1
    rw [← HN.out] at this
    omega)
   go_wp2
   go_quiet (fail)
   have hbx : Below w1.heap.size w1 (wr.drewN nq) := below_drewN hwr nq
   have hDx := H1.out.go hbx
   have hbk : (wr.drewN nq).heap[q]? = some (.cells #[vG, .slice (some ⟨g, 0, none⟩) ln cap, vS] 78 (0, 0)) := (hbx.block q (Array.getElem?_eq_some_iff.1 HK1.out).1).trans HK1.out
   have HR : Hid (encLh.Row (wr.drewN nq) B 131 (.slice (some ⟨g, 0, none⟩) b.2.1.length cap) b.2.1) := by
    show Enc.Row _ _ _ _ _ _
    rw [← HN.out]; exact HK2.out.below hbx
   have HOth := k3.below hbx
   have HSt := k4.below hbx
   clear cr sr HDr HBr hwr
   generalize (wr.drewN nq) = W at *
   have HLe : Hid (0 + k ≤ b.2.1.length) := by show _ ≤ _; rw [← HN.out]; omega
   have HLe2 : Hid (k + (ln - k) ≤ b.2.1.length) := by show _ ≤ _; rw [← HN.out]; omega
   have HFin : Hid (∀ (V : World) (v : Value), V.ownsRow W.heap.size 131 5 v (0 + k + 1 + (ln - k)) ([] ++ encLh.flat ((b.2.1.drop 0).take k) ++ encLh.enc (((ali, alc, alu, alk), 0) : Lh) ++ encLh.flat ((b.2.1.drop k).take (ln - k))) → encLh.Row V W.heap.size 131 v (insC nameL b.2.1 (((ali, alc, alu, alk), 0) : Lh))) := by
    show ∀ (V : World) (v : Value), _ → _
    intro V v hv
    have e1 : insC nameL b.2.1 (((ali, alc, alu, alk), 0) : Lh) = b.2.1.take k ++ (((ali, alc, alu, alk), 0) : Lh) :: b.2.1.drop k := by
     unfold insC
     rw [show aheadC nameL (nameL (((ali, alc, alu, alk), 0) : Lh)) b.2.1 = k from HK.out]
    have e2 : encLh.flat (b.2.1.take k ++ (((ali, alc, alu, alk), 0) : Lh) :: b.2.1.drop k) = [] ++ encLh.flat ((b.2.1.drop 0).take k) ++ encLh.enc (((ali, alc, alu, alk), 0) : Lh) ++ encLh.flat ((b.2.1.drop k).take (ln - k)) := by
     rw [List.take_of_length_le (l := b.2.1.drop k) (by rw [List.length_drop, ← HN.out]; omega), List.nil_append, List.drop_zero, encLh.flat_append, List.append_assoc]
     congr 1
    have e3 : (b.2.1.take k ++ (((ali, alc, alu, alk), 0) : Lh) :: b.2.1.drop k).length = 0 + k + 1 + (ln - k) := by
     rw [List.length_append, List.length_cons, List.length_take, List.length_drop, ← HN.out]
     omega
    unfold Enc.Row
    rw [e1, e2, e3]
    exact hv
   have hks : (k : Int) ≤ (ln : Int) := by omega
   have hkc : (k : Int) ≤ (cap : Int) := by omega
   have hlc : (ln : Int) ≤ (cap : Int) := by omega
   have oD := hDx.go (Below.refl _ W); have ob : W.heap[q]? = some (.cells #[vG, .slice (some ⟨g, 0, none⟩) ln cap, vS] 78 (0, 0)) := ((Below.refl _ W).block q (Array.getElem?_eq_some_iff.1 hbk).1).trans hbk; have os : W.cell? ⟨q, 1, none⟩ = some (.slice (some ⟨g, 0, none⟩) ln cap) := (by rw [cell_of_heap ob]; rfl); have ofz : W.frozen? ⟨q, 1, none⟩ = false := frozen_of_heap ob _; have o3 := oD.ent.at.c3; simp only at o3; have o4 := oD.ent.at.c4; simp only at o4; have o5 := oD.ent.at.c5; simp only at o5; have o6 := oD.ent.at.c6; simp only at o6; have oH : Hid (Dw _ _ _ _ _ _) := oD; have oB : Hid (W.heap[q]? = _) := ob; clear oD ob
   have HBq : Hid (B ≤ W.heap.size) := Nat.le_trans k5 (Nat.le_of_lt (Array.getElem?_eq_some_iff.1 hbk).1)
   have hbB : Hid (Turn B w W) := Turn.of hDx.below (by have := HK0.out; omega)
   by_cases hck : cap = k
   all_goals
    go_wp2_with (first
     | (at_builtin; refine wpList_append_own _ rfl _ _ 74 rfl W.heap.size 131 i0 (.agg #[.string ⟨#[]⟩, .string ⟨#[]⟩, .int .i64 0, .int .i64 0, .int .i64 0]) 5 56 Tryz.underlying74 hi hz0 hz1 hz2 rfl (by decide) (.slice none 0 0) 0 [] rfl (World.ownsRow_nil _ _ _ _) ⟨g, 0, none⟩ k _ (encLh.flat ((b.2.1.drop 0).take k)) rfl (encLh.news_len _ 0 k HLe.out) (HR.out.news 0 k 0 HLe.out (Or.inr (by simp))) (encLh.flat_cell _) (by unfold maxLen; omega) (by omega) (Nat.le_refl _) ?_; intro v1 W1 own1 gr1 _; have bW1 : Below W.heap.size W W1 := (Below.refl _ W).grown gr1 (Nat.le_refl _) (fun k hk => by cases hk); have pD := hDx.go bW1; have pb : W1.heap[q]? = some (.cells #[vG, .slice (some ⟨g, 0, none⟩) ln cap, vS] 78 (0, 0)) := (bW1.block q (Array.getElem?_eq_some_iff.1 hbk).1).trans hbk; have ps : W1.cell? ⟨q, 1, none⟩ = some (.slice (some ⟨g, 0, none⟩) ln cap) := (by rw [cell_of_heap pb]; rfl); have pfz : W1.frozen? ⟨q, 1, none⟩ = false := frozen_of_heap pb _; have p3 := pD.ent.at.c3; simp only at p3; have p4 := pD.ent.at.c4; simp only at p4; have p5 := pD.ent.at.c5; simp only at p5; have p6 := pD.ent.at.c6; simp only at p6; have pH : Hid (Dw _ _ _ _ _ _) := pD; have pB : Hid (W1.heap[q]? = _) := pb; clear pD pb; have O1 : Hid (W1.ownsRow W.heap.size 131 5 v1 (0 + k) ([] ++ encLh.flat ((b.2.1.drop 0).take k))) := own1; have BW1 : Hid (Below _ _ _) := bW1; clear own1 gr1 bW1)
     | (at_builtin; refine wpList_append_own _ rfl _ _ 74 rfl W.heap.size 131 i0 (.agg #[.string ⟨#[]⟩, .string ⟨#[]⟩, .int .i64 0, .int .i64 0, .int .i64 0]) 5 56 Tryz.underlying74 hi hz0 hz1 hz2 rfl (by decide) v1 (0 + k) ([] ++ encLh.flat ((b.2.1.drop 0).take k)) rfl (O1.out.alloc _) ⟨W1.heap.size, 0, none⟩ 1 1 (encLh.enc (((ali, alc, alu, alk), 0) : Lh)) rfl rfl (World.news_of_block (heap_alloc_new W1 _)) (encLh.one _) (by unfold maxLen; omega) (by omega) (by have := BW1.out.size; simp; omega) ?_; intro v2 W2 own2 gr2 _; have bW2 : Below W.heap.size W W2 := (BW1.out.alloc BW1.out.size _).grown gr2 (by have := BW1.out.size; simp; omega) (fun k hk => (O1.out.lt k hk).1); have sD := hDx.go bW2; have sb : W2.heap[q]? = some (.cells #[vG, .slice (some ⟨g, 0, none⟩) ln cap, vS] 78 (0, 0)) := (bW2.block q (Array.getElem?_eq_some_iff.1 hbk).1).trans hbk; have ss : W2.cell? ⟨q, 1, none⟩ = some (.slice (some ⟨g, 0, none⟩) ln cap) := (by rw [cell_of_heap sb]; rfl); have sfz : W2.frozen? ⟨q, 1, none⟩ = false := frozen_of_heap sb _; have s3 := sD.ent.at.c3; simp only at s3; have s4 := sD.ent.at.c4; simp only at s4; have s5 := sD.ent.at.c5; simp only at s5; have s6 := sD.ent.at.c6; simp only at s6; have sH : Hid (Dw _ _ _ _ _ _) := sD; have sB : Hid (W2.heap[q]? = _) := sb; clear sD sb; have O2 : Hid (W2.ownsRow W.heap.size 131 5 v2 (0 + k + 1) ([] ++ encLh.flat ((b.2.1.drop 0).take k) ++ encLh.enc (((ali, alc, alu, alk), 0) : Lh))) := own2; have BW2 : Hid (Below _ _ _) := bW2; clear own2 gr2 bW2)
     | (at_builtin; refine wpList_append_own _ rfl _ _ 74 rfl W.heap.size 131 i0 (.agg #[.string ⟨#[]⟩, .string ⟨#[]⟩, .int .i64 0, .int .i64 0, .int .i64 0]) 5 56 Tryz.underlying74 hi hz0 hz1 hz2 rfl (by decide) v2 (0 + k + 1) ([] ++ encLh.flat ((b.2.1.drop 0).take k) ++ encLh.enc (((ali, alc, alu, alk), 0) : Lh)) rfl O2.out ⟨g, _, none⟩ (ln - k) _ (encLh.flat ((b.2.1.drop k).take (ln - k))) rfl (encLh.news_len _ k (ln - k) HLe2.out) ((HR.out.below BW2.out).news k (ln - k) _ HLe2.out (by first | exact Or.inr rfl | exact Or.inl (by omega) | (right; simp; omega))) (encLh.flat_cell _) (by unfold maxLen; omega) (by omega) BW2.out.size ?_; intro v3 W3 own3 gr3 _; have bW3 : Below W.heap.size W W3 := BW2.out.grown gr3 BW2.out.size (fun k hk => (O2.out.lt k hk).1); have tD := hDx.go bW3; have tb : W3.heap[q]? = some (.cells #[vG, .slice (some ⟨g, 0, none⟩) ln cap, vS] 78 (0, 0)) := (bW3.block q (Array.getElem?_eq_some_iff.1 hbk).1).trans hbk; have ts : W3.cell? ⟨q, 1, none⟩ = some (.slice (some ⟨g, 0, none⟩) ln cap) := (by rw [cell_of_heap tb]; rfl); have tfz : W3.frozen? ⟨q, 1, none⟩ = false := frozen_of_heap tb _; have t3 := tD.ent.at.c3; simp only at t3; have t4 := tD.ent.at.c4; simp only at t4; have t5 := tD.ent.at.c5; simp only at t5; have t6 := tD.ent.at.c6; simp only at t6; have tH : Hid (Dw _ _ _ _ _ _) := tD; have tB : Hid (W3.heap[q]? = _) := tb; clear tD tb; have O3 := HFin.out W3 v3 own3; obtain ⟨a3, c3, rfl⟩ := Enc.Row.shape O3; have OO3 : Hid (Enc.Row _ _ _ _ _ _) := O3; have BW3 : Hid (Below _ _ _) := bW3; clear own3 gr3 bW3 O3))
    go_ret
    refine ⟨rfl, ?_, ?_⟩
    ·exact RefB.setL tB.out (OO3.out.base HBq.out) ((HOth.below BW3.out)) ((HSt.below BW3.out)) k5
    ·exact (hbB.out.trans (Turn.of BW3.out HBq.out)).set k5 (Or.inl rfl) tB.out _
theorem Enc.Row.single {α : Type} {E : Enc α} {w : World} {B : Nat} {T : TypeId} {v : Value} {x : α} (h : E.Row w B T v [x]) : ∃ g c, v = .slice (some ⟨g, 0, none⟩) 1 c ∧ 1 ≤ c := by
 rcases h.forms with ⟨_, h0⟩ | ⟨g, cap, hv, _, _, hc, _⟩
 ·cases h0
 ·exact ⟨g, cap, hv, hc⟩
theorem do_goods_nil (w : World) (B q : Nat) (b : Bk) (e : En) (h : RefB w B q b) (hz : SzE e) (hw : WfB b) (he : entErr e = 0) (hk : e.1 = kGoods) (h0 : findI nameG b.1 e.2.1.1 < 0) (h1 : b.1.length < 30) (hne : RefBgn w B q b) :
  Calls Tryz.prog 29 #[.pointer (some ⟨q, 0, none⟩), agE e] w fun r w' => r = .returned (.int .i64 0) ∧ RefB w' B q (goodsB b e.2.1) ∧ Turn B w w' := by
 obtain ⟨i0, hi, hz0, hz1, hz2⟩ := info_parts Tryz.infoGs
 have hD := Dw.new h e
 have hC := terr_any e (w.alloc (celE e)) hz
 have HF : Hid (∀ W, RefB W B q b → Calls Tryz.prog 61 #[.pointer (some ⟨q, 0, none⟩), .string e.2.1.1] W fun r w' => r = .returned (.int .i64 (findI nameG b.1 e.2.1.1)) ∧ w' = W) := fun W hW => findG_any W B q b e.2.1.1 hW (by have := hw.gl; omega)
 rw [he] at hC
 have e1 : (e.1.toList == kGoods.data.toList) = true := same_wordR hk
 generalize findI nameG b.1 e.2.1.1 = F at *
 have HWf : Hid (WfB b) := hw
 have HNe : Hid (RefBgn w B q b) := hne
 have HK0 : Hid (B ≤ w.heap.size) := (by obtain ⟨_, _, _, h9, _, _, _, h8⟩ := h; exact Nat.le_trans h8 (Nat.le_of_lt (Array.getElem?_eq_some_iff.1 h9).1))
 have h1' : (b.1.length : Int) < 30 := by omega
 clear hz h he hk hw hne
 obtain ⟨ak, ⟨agc, agp⟩, ⟨ali, alc, alu, alk⟩, ⟨afz, afr, afb⟩, ⟨atz, atr, atb⟩, an⟩ := e
 unfold agE celE at *
 simp only at *
 have HC : Hid (Calls Tryz.prog 60 _ _ _) := hC
 have HD : Hid (Dw _ _ _ _ _ _) := hD
 clear hC hD
 go_enter Tryz.func29, Tryz.ntmps29
 go_wp2_with (first
  | (go_at_call 60; refine HC.out.mono ?_; rintro r w1 ⟨rfl, hb1⟩; have h1w := HD.out.go hb1; obtain ⟨c0, c1, c2, c3, c4, c5, c6, c7, c8, c9, c10, c11, c12, c13⟩ := h1w.ent.at; simp only at c0 c1 c2 c3 c4 c5 c6 c7 c8 c9 c10 c11 c12 c13; obtain ⟨aG, cG, aL, cL, vS', s0, s1, s2, sq⟩ := h1w.book.slices; have H1 : Hid (Dw _ _ _ _ _ _) := h1w; clear hb1 h1w)
  | (go_at_call 61; refine (HF.out _ H1.out.book).mono ?_; rintro r w2 ⟨rfl, hw⟩; have hw' := hw.symm; subst hw'))
 obtain ⟨hnil, vL, vS, k1, k3, k4, k5⟩ := HNe.out.below H1.out.below
 have s9 : w1.cell? ⟨q, 0, none⟩ = some (.slice none 0 0) := by rw [cell_of_heap k1]; rfl
 clear s0 s1 s2 HF HC HD HNe 
 have HK1 : Hid (w1.heap[q]? = some (.cells #[.slice none 0 0, vL, vS] 78 (0, 0))) := k1
 have HNil : Hid (b.1 = []) := hnil
 clear k1 hnil
 refine wp_loop_rounds 1 ?_
 rw [rounds_succ]
 go_wp2
 go_quiet (fail)
 have hbx : Below w1.heap.size w1 (w1.drewN nq) := below_drewN (Below.refl _ _) nq
 have hDx := H1.out.go hbx
 have hbk : (w1.drewN nq).heap[q]? = some (.cells #[.slice none 0 0, vL, vS] 78 (0, 0)) := (hbx.block q (Array.getElem?_eq_some_iff.1 HK1.out).1).trans HK1.out
 have HOth := k3.below hbx
 have HSt := k4.below hbx
 clear c0 c1 c2 c3 c4 c5 c6 c7 c8 c9 c10 c11 c12 c13 s9
 generalize (w1.drewN nq) = W at *
 have HFin : Hid (∀ (V : World) (v : Value), V.ownsRow W.heap.size 120 6 v (0 + 1) ([] ++ encGs.enc (((agc, agp), zeroSu) : Gs)) → encGs.Row V W.heap.size 120 v (insC nameG [] (((agc, agp), zeroSu) : Gs))) := fun V v hv => hv
 have HBq : Hid (B ≤ W.heap.size) := Nat.le_trans k5 (Nat.le_of_lt (Array.getElem?_eq_some_iff.1 hbk).1)
 have hbB : Hid (Turn B w W) := Turn.of hDx.below HK0.out
 have oD := hDx.go (Below.refl _ W); have ob : W.heap[q]? = some (.cells #[.slice none 0 0, vL, vS] 78 (0, 0)) := ((Below.refl _ W).block q (Array.getElem?_eq_some_iff.1 hbk).1).trans hbk; have os : W.cell? ⟨q, 0, none⟩ = some (.slice none 0 0) := (by rw [cell_of_heap ob]; rfl); have ofz : W.frozen? ⟨q, 0, none⟩ = false := frozen_of_heap ob _; have o1 := oD.ent.at.c1; simp only at o1; have o2 := oD.ent.at.c2; simp only at o2; have oH : Hid (Dw _ _ _ _ _ _) := oD; have oB : Hid (W.heap[q]? = _) := ob; clear oD ob
 go_wp2_with (first
  | (at_builtin; refine wpList_append_own _ rfl _ _ 73 rfl W.heap.size 120 i0 (.agg #[.string ⟨#[]⟩, .int .i64 0, .int .i64 0, .int .i64 0, .int .i64 0, .int .i64 0]) 6 56 Tryz.underlying73 hi hz0 hz1 hz2 rfl (by decide) (.slice none 0 0) 0 [] rfl (World.ownsRow_nil _ _ _ _) ⟨W.heap.size, 0, none⟩ 1 1 (encGs.enc (((agc, agp), zeroSu) : Gs)) rfl rfl (World.news_of_block (heap_alloc_new W _)) (encGs.one _) (by decide) (by decide) (by simp) ?_; intro v2 W2 own2 gr2 _; have bW2 : Below W.heap.size W W2 := ((Below.refl _ W).alloc (Nat.le_refl _) _).grown gr2 (by simp) (fun k hk => by cases hk); have sD := hDx.go bW2; have sb : W2.heap[q]? = some (.cells #[.slice none 0 0, vL, vS] 78 (0, 0)) := (bW2.block q (Array.getElem?_eq_some_iff.1 hbk).1).trans hbk; have ss : W2.cell? ⟨q, 0, none⟩ = some (.slice none 0 0) := (by rw [cell_of_heap sb]; rfl); have sfz : W2.frozen? ⟨q, 0, none⟩ = false := frozen_of_heap sb _; have s1 := sD.ent.at.c1; simp only at s1; have s2 := sD.ent.at.c2; simp only at s2; have sH : Hid (Dw _ _ _ _ _ _) := sD; have sB : Hid (W2.heap[q]? = _) := sb; clear sD sb; have O2 := HFin.out W2 v2 own2; obtain ⟨g3, c3, hv2, hc3⟩ := Enc.Row.single O2; have hc3' : (1 : Int) ≤ (c3 : Int) := (by omega); subst hv2; have OO3 : Hid (Enc.Row _ _ _ _ _ _) := O2; have BW3 : Hid (Below _ _ _) := bW2; clear own2 gr2 bW2 O2))
 go_ret
 refine ⟨rfl, ?_, ?_⟩
 ·have := RefB.setG sB.out (OO3.out.base HBq.out) ((HOth.below BW3.out)) ((HSt.below BW3.out)) k5
  show RefB _ B q ((insC nameG b.1 _, b.2.1, b.2.2))
  rw [HNil.out]
  exact this
 ·exact (hbB.out.trans (Turn.of BW3.out HBq.out)).set k5 (Or.inl rfl) sB.out _
theorem do_lot_nil (w : World) (B q : Nat) (b : Bk) (e : En) (h : RefB w B q b) (hz : SzE e) (hw : WfB b) (he : entErr e = 0) (hk : e.1 = kLot) (h0 : findI nameL b.2.1 e.2.2.1.1 < 0) (h2 : 0 ≤ findI nameG b.1 e.2.2.1.2.1) (h1 : b.2.1.length < 60) (hne : RefBln w B q b) :
  Calls Tryz.prog 29 #[.pointer (some ⟨q, 0, none⟩), agE e] w fun r w' => r = .returned (.int .i64 0) ∧ RefB w' B q (lotB b e.2.2.1) ∧ Turn B w w' := by
 obtain ⟨i0, hi, hz0, hz1, hz2⟩ := info_parts Tryz.infoLh
 have hD := Dw.new h e
 have hC := terr_any e (w.alloc (celE e)) hz
 have HL : Hid (∀ W, RefB W B q b → Calls Tryz.prog 51 #[.pointer (some ⟨q, 0, none⟩), .string e.2.2.1.1] W fun r w' => r = .returned (.int .i64 (findI nameL b.2.1 e.2.2.1.1)) ∧ w' = W) := fun W hW => findL_any W B q b e.2.2.1.1 hW (by have := hw.ll; omega)
 have HF : Hid (∀ W, RefB W B q b → Calls Tryz.prog 61 #[.pointer (some ⟨q, 0, none⟩), .string e.2.2.1.2.1] W fun r w' => r = .returned (.int .i64 (findI nameG b.1 e.2.2.1.2.1)) ∧ w' = W) := fun W hW => findG_any W B q b e.2.2.1.2.1 hW (by have := hw.gl; omega)
 rw [he] at hC
 have e1 : (e.1.toList == kGoods.data.toList) = false := other_word (by rw [hk]; decide)
 have e2 : (e.1.toList == kLot.data.toList) = true := same_wordR hk
 generalize findI nameL b.2.1 e.2.2.1.1 = F at *
 generalize findI nameG b.1 e.2.2.1.2.1 = F1 at *
 have HWf : Hid (WfB b) := hw
 have HNe : Hid (RefBln w B q b) := hne
 have HK0 : Hid (B ≤ w.heap.size) := (by obtain ⟨_, _, _, h9, _, _, _, h8⟩ := h; exact Nat.le_trans h8 (Nat.le_of_lt (Array.getElem?_eq_some_iff.1 h9).1))
 have h1' : (b.2.1.length : Int) < 60 := by omega
 clear hz h he hk hw hne
 obtain ⟨ak, ⟨agc, agp⟩, ⟨ali, alc, alu, alk⟩, ⟨afz, afr, afb⟩, ⟨atz, atr, atb⟩, an⟩ := e
 unfold agE celE at *
 simp only at *
 have HC : Hid (Calls Tryz.prog 60 _ _ _) := hC
 have HD : Hid (Dw _ _ _ _ _ _) := hD
 clear hC hD
 go_enter Tryz.func29, Tryz.ntmps29
 go_wp2_with (first
  | (go_at_call 60; refine HC.out.mono ?_; rintro r w1 ⟨rfl, hb1⟩; have h1w := HD.out.go hb1; obtain ⟨c0, c1, c2, c3, c4, c5, c6, c7, c8, c9, c10, c11, c12, c13⟩ := h1w.ent.at; simp only at c0 c1 c2 c3 c4 c5 c6 c7 c8 c9 c10 c11 c12 c13; obtain ⟨aG, cG, aL, cL, vS', s0, s1, s2, sq⟩ := h1w.book.slices; have H1 : Hid (Dw _ _ _ _ _ _) := h1w; clear hb1 h1w)
  | (go_at_call 51; refine (HL.out _ H1.out.book).mono ?_; rintro r w2 ⟨rfl, hw⟩; have hw' := hw.symm; subst hw')
  | (go_at_call 61; refine (HF.out _ H1.out.book).mono ?_; rintro r w2 ⟨rfl, hw⟩; have hw' := hw.symm; subst hw'))
 obtain ⟨hnil, vG, vS, k1, k3, k4, k5⟩ := HNe.out.below H1.out.below
 have s9 : w1.cell? ⟨q, 1, none⟩ = some (.slice none 0 0) := by rw [cell_of_heap k1]; rfl
 clear s0 s1 s2 HF HC HD HNe HL
 have HK1 : Hid (w1.heap[q]? = some (.cells #[vG, .slice none 0 0, vS] 78 (0, 0))) := k1
 have HNil : Hid (b.2.1 = []) := hnil
 clear k1 hnil
 refine wp_loop_rounds 1 ?_
 rw [rounds_succ]
 go_wp2
 go_quiet (fail)
 have hbx : Below w1.heap.size w1 (w1.drewN nq) := below_drewN (Below.refl _ _) nq
 have hDx := H1.out.go hbx
 have hbk : (w1.drewN nq).heap[q]? = some (.cells #[vG, .slice none 0 0, vS] 78 (0, 0)) := (hbx.block q (Array.getElem?_eq_some_iff.1 HK1.out).1).trans HK1.out
 have HOth := k3.below hbx
 have HSt := k4.below hbx
 clear c0 c1 c2 c3 c4 c5 c6 c7 c8 c9 c10 c11 c12 c13 s9
 generalize (w1.drewN nq) = W at *
 have HFin : Hid (∀ (V : World) (v : Value), V.ownsRow W.heap.size 131 5 v (0 + 1) ([] ++ encLh.enc (((ali, alc, alu, alk), 0) : Lh)) → encLh.Row V W.heap.size 131 v (insC nameL [] (((ali, alc, alu, alk), 0) : Lh))) := fun V v hv => hv
 have HBq : Hid (B ≤ W.heap.size) := Nat.le_trans k5 (Nat.le_of_lt (Array.getElem?_eq_some_iff.1 hbk).1)
 have hbB : Hid (Turn B w W) := Turn.of hDx.below HK0.out
 have oD := hDx.go (Below.refl _ W); have ob : W.heap[q]? = some (.cells #[vG, .slice none 0 0, vS] 78 (0, 0)) := ((Below.refl _ W).block q (Array.getElem?_eq_some_iff.1 hbk).1).trans hbk; have os : W.cell? ⟨q, 1, none⟩ = some (.slice none 0 0) := (by rw [cell_of_heap ob]; rfl); have ofz : W.frozen? ⟨q, 1, none⟩ = false := frozen_of_heap ob _; have o3 := oD.ent.at.c3; simp only at o3; have o4 := oD.ent.at.c4; simp only at o4; have o5 := oD.ent.at.c5; simp only at o5; have o6 := oD.ent.at.c6; simp only at o6; have oH : Hid (Dw _ _ _ _ _ _) := oD; have oB : Hid (W.heap[q]? = _) := ob; clear oD ob
 go_wp2_with (first
  | (at_builtin; refine wpList_append_own _ rfl _ _ 74 rfl W.heap.size 131 i0 (.agg #[.string ⟨#[]⟩, .string ⟨#[]⟩, .int .i64 0, .int .i64 0, .int .i64 0]) 5 56 Tryz.underlying74 hi hz0 hz1 hz2 rfl (by decide) (.slice none 0 0) 0 [] rfl (World.ownsRow_nil _ _ _ _) ⟨W.heap.size, 0, none⟩ 1 1 (encLh.enc (((ali, alc, alu, alk), 0) : Lh)) rfl rfl (World.news_of_block (heap_alloc_new W _)) (encLh.one _) (by decide) (by decide) (by simp) ?_; intro v2 W2 own2 gr2 _; have bW2 : Below W.heap.size W W2 := ((Below.refl _ W).alloc (Nat.le_refl _) _).grown gr2 (by simp) (fun k hk => by cases hk); have sD := hDx.go bW2; have sb : W2.heap[q]? = some (.cells #[vG, .slice none 0 0, vS] 78 (0, 0)) := (bW2.block q (Array.getElem?_eq_some_iff.1 hbk).1).trans hbk; have ss : W2.cell? ⟨q, 1, none⟩ = some (.slice none 0 0) := (by rw [cell_of_heap sb]; rfl); have sfz : W2.frozen? ⟨q, 1, none⟩ = false := frozen_of_heap sb _; have s3 := sD.ent.at.c3; simp only at s3; have s4 := sD.ent.at.c4; simp only at s4; have s5 := sD.ent.at.c5; simp only at s5; have s6 := sD.ent.at.c6; simp only at s6; have sH : Hid (Dw _ _ _ _ _ _) := sD; have sB : Hid (W2.heap[q]? = _) := sb; clear sD sb; have O2 := HFin.out W2 v2 own2; obtain ⟨g3, c3, hv2, hc3⟩ := Enc.Row.single O2; have hc3' : (1 : Int) ≤ (c3 : Int) := (by omega); subst hv2; have OO3 : Hid (Enc.Row _ _ _ _ _ _) := O2; have BW3 : Hid (Below _ _ _) := bW2; clear own2 gr2 bW2 O2))
 go_ret
 refine ⟨rfl, ?_, ?_⟩
 ·have := RefB.setL sB.out (OO3.out.base HBq.out) ((HOth.below BW3.out)) ((HSt.below BW3.out)) k5
  show RefB _ B q ((b.1, insC nameL b.2.1 _, b.2.2))
  rw [HNil.out]
  exact this
 ·exact (hbB.out.trans (Turn.of BW3.out HBq.out)).set k5 (Or.inl rfl) sB.out _
end Go.Proofs.YtppodkkefegbkaaGreatDoor
namespace Go.Proofs.YtppodkkefegbkaaGreatDoor
open Go.RowKit Go.Lib Go.Sort
theorem block_ne {w : World} {x y : Nat} {c c' : Array Value} {T T' : TypeId} {f f' : Nat × Nat} (h : w.heap[x]? = some (.cells c T f)) (h' : w.heap[y]? = some (.cells c' T' f')) (hT : T ≠ T') : x ≠ y := fun e => by
 subst e
 rw [h] at h'
 injection h' with h'
 injection h' with _ h2 _
 exact hT h2
theorem block_set {w : World} {x t i : Nat} {o : Obj} (h : w.heap[x]? = some o) (hn : x ≠ t) (v : Value) : (w.setCell ⟨t, i, none⟩ v).heap[x]? = some o := (Below.heap_setCell w ⟨t, i, none⟩ v x hn).trans h
variable {α : Type}
theorem flat_set (E : Enc α) : ∀ {m : List α} {i : Nat} {x y : α} {c : Nat} {v : Value}, m[i]? = some x → c < E.k → E.enc y = (E.enc x).set c v → (E.flat m).set (i * E.k + c) v = E.flat (m.set i y)
 | [], i, x, y, c, v, h, _, _ => by simp at h
 | z :: m, 0, x, y, c, v, h, hc, hy => by
  obtain rfl : z = x := by simpa using h
  unfold Enc.flat
  rw [List.flatMap_cons, Nat.zero_mul, Nat.zero_add, List.set_append_left _ _ (by rw [E.len]; exact hc), List.set_cons_zero, List.flatMap_cons, hy]
 | z :: m, i + 1, x, y, c, v, h, hc, hy => by
  have h' : m[i]? = some x := by simpa using h
  have ih := flat_set E (v := v) h' hc hy
  unfold Enc.flat at *
  rw [List.flatMap_cons, List.set_append_right _ _ (by rw [E.len, Nat.succ_mul]; omega), List.set_cons_succ, List.flatMap_cons, ← ih, E.len]
  congr 2
  rw [Nat.succ_mul]; omega
theorem Enc.Row.set1 {E : Enc α} {w : World} {B g n cap : Nat} {T : TypeId} {m : List α} {i c o : Nat} {x y : α} {v : Value} (h : E.Row w B T (.slice (some ⟨g, 0, none⟩) n cap) m) (hx : m[i]? = some x) (hc : c < E.k) (hy : E.enc y = (E.enc x).set c v) (ho : o = i * E.k + c) : E.Row (w.setCell ⟨g, o, none⟩ v) B T (.slice (some ⟨g, 0, none⟩) n cap) (m.set i y) := by
 subst ho
 have hi := (List.getElem?_eq_some_iff.1 hx).1
 have hlt : i * E.k + c < m.length * E.k := by
  have : (i + 1) * E.k ≤ m.length * E.k := Nat.mul_le_mul_right _ hi
  rw [Nat.succ_mul] at this
  omega
 rcases h.2 with ⟨h1, _⟩ | ⟨g', cap', cur, hv, hB, hg, h3, h4, h5, h6⟩
 ·cases h1
 ·injection hv with a1 a2 a3
  injection a1 with a1
  injection a1 with a1
  subst a1
  refine ⟨by rw [E.flat_len], Or.inr ⟨g, cap', cur.setIfInBounds (i * E.k + c) v, ?_, hB, Joins.block_setCell hg v, ?_, h4, ?_, ?_⟩⟩
  ·rw [List.length_set, ← a3, a2]
  ·rw [List.length_set]; exact h3
  ·rw [Array.size_setIfInBounds]; exact h5
  ·rw [List.length_set, ← flat_set E hx hc hy, ← h6, Array.toList_setIfInBounds, List.take_set]
structure Pw (w W : World) (B q gG cG gL cL : Nat) (vS : Value) (b : Bk) (e : En) (sb tb : Nat) (s : Su) (vt : Value) : Prop where
 below : Below w.heap.size w W
 blk : W.heap[q]? = some (.cells #[.slice (some ⟨gG, 0, none⟩) b.1.length cG, .slice (some ⟨gL, 0, none⟩) b.2.1.length cL, vS] 78 (0, 0))
 G : encGs.Row W B 120 (.slice (some ⟨gG, 0, none⟩) b.1.length cG) b.1
 L : encLh.Row W B 131 (.slice (some ⟨gL, 0, none⟩) b.2.1.length cL) b.2.1
 S : encLn.Row W 0 48 vS b.2.2
 qB : B ≤ q
 ent : BlkE W w.heap.size e
 sums : W.heap[sb]? = some (.cells #[.int .i64 s.1, .int .i64 s.2.1, .int .i64 s.2.2.1, .int .i64 s.2.2.2] 118 (0, 0))
 stk : W.heap[tb]? = some (.cells #[vt] 76 (0, 0))
 sp : w.heap.size ≤ sb
 tp : w.heap.size ≤ tb
theorem Pw.go {w W W' : World} {B q gG cG gL cL : Nat} {vS : Value} {b : Bk} {e : En} {sb tb : Nat} {s : Su} {vt : Value} (h : Pw w W B q gG cG gL cL vS b e sb tb s vt) (hb : Below W.heap.size W W') : Pw w W' B q gG cG gL cL vS b e sb tb s vt where
 below := h.below.trans (hb.mono h.below.size)
 blk := (hb.block q (Array.getElem?_eq_some_iff.1 h.blk).1).trans h.blk
 G := h.G.below hb
 L := h.L.below hb
 S := h.S.below hb
 qB := h.qB
 ent := h.ent.below hb
 sums := (hb.block sb (Array.getElem?_eq_some_iff.1 h.sums).1).trans h.sums
 stk := (hb.block tb (Array.getElem?_eq_some_iff.1 h.stk).1).trans h.stk
 sp := h.sp
 tp := h.tp
theorem Pw.setT {w W : World} {B q gG cG gL cL : Nat} {vS : Value} {b : Bk} {e : En} {sb tb : Nat} {s : Su} {vt : Value} (h : Pw w W B q gG cG gL cL vS b e sb tb s vt) (v : Value) : Pw w (W.setCell ⟨tb, 0, none⟩ v) B q gG cG gL cL vS b e sb tb s v where
 below := h.below.setCell (p := ⟨tb, 0, none⟩) h.tp v
 blk := block_set h.blk (block_ne h.blk h.stk (by decide)) v
 G := h.G.setOther (h.G.apart h.stk (by decide)) v
 L := h.L.setOther (h.L.apart h.stk (by decide)) v
 S := h.S.setOther (h.S.apart h.stk (by decide)) v
 qB := h.qB
 ent := block_set h.ent (block_ne h.ent h.stk (by decide)) v
 sums := block_set h.sums (block_ne h.sums h.stk (by decide)) v
 stk := set_cell h.stk 0 v rfl
 sp := h.sp
 tp := h.tp
theorem Pw.setU {w W : World} {B q gG cG gL cL : Nat} {vS : Value} {b : Bk} {e : En} {sb tb : Nat} {s : Su} {vt : Value} (h : Pw w W B q gG cG gL cL vS b e sb tb s vt) (i : Nat) (v : Int) (s' : Su) (hs : (#[.int .i64 s.1, .int .i64 s.2.1, .int .i64 s.2.2.1, .int .i64 s.2.2.2] : Array Value).setIfInBounds i (.int .i64 v) = #[.int .i64 s'.1, .int .i64 s'.2.1, .int .i64 s'.2.2.1, .int .i64 s'.2.2.2]) : Pw w (W.setCell ⟨sb, i, none⟩ (.int .i64 v)) B q gG cG gL cL vS b e sb tb s' vt where
 below := h.below.setCell (p := ⟨sb, i, none⟩) h.sp _
 blk := block_set h.blk (block_ne h.blk h.sums (by decide)) _
 G := h.G.setOther (h.G.apart h.sums (by decide)) _
 L := h.L.setOther (h.L.apart h.sums (by decide)) _
 S := h.S.setOther (h.S.apart h.sums (by decide)) _
 qB := h.qB
 ent := block_set h.ent (block_ne h.ent h.sums (by decide)) _
 sums := set_cell h.sums i _ hs
 stk := block_set h.stk (block_ne h.stk h.sums (by decide)) _
 sp := h.sp
 tp := h.tp
theorem Pw.book {w W : World} {B q gG cG gL cL : Nat} {vS : Value} {b : Bk} {e : En} {sb tb : Nat} {s : Su} {vt : Value} (h : Pw w W B q gG cG gL cL vS b e sb tb s vt) : RefB W B q b := ⟨_, _, _, h.blk, h.G, h.L, h.S, h.qB⟩
theorem Pw.cells {w W : World} {B q gG cG gL cL : Nat} {vS : Value} {b : Bk} {e : En} {sb tb : Nat} {s : Su} {vt : Value} (h : Pw w W B q gG cG gL cL vS b e sb tb s vt) :
  (W.cell? ⟨q, 0, none⟩ = some (.slice (some ⟨gG, 0, none⟩) b.1.length cG) ∧ W.cell? ⟨q, 1, none⟩ = some (.slice (some ⟨gL, 0, none⟩) b.2.1.length cL) ∧ W.cell? ⟨q, 2, none⟩ = some vS ∧ ∀ o, W.frozen? ⟨q, o, none⟩ = false) ∧
  (W.cell? ⟨sb, 0, none⟩ = some (.int .i64 s.1) ∧ W.cell? ⟨sb, 1, none⟩ = some (.int .i64 s.2.1) ∧ W.cell? ⟨sb, 2, none⟩ = some (.int .i64 s.2.2.1) ∧ W.cell? ⟨sb, 3, none⟩ = some (.int .i64 s.2.2.2) ∧ ∀ o, W.frozen? ⟨sb, o, none⟩ = false) ∧
  (W.cell? ⟨tb, 0, none⟩ = some vt ∧ ∀ o, W.frozen? ⟨tb, o, none⟩ = false) :=
 ⟨⟨by rw [cell_of_heap h.blk]; rfl, by rw [cell_of_heap h.blk]; rfl, by rw [cell_of_heap h.blk]; rfl, fun o => frozen_of_heap h.blk o⟩, ⟨by rw [cell_of_heap h.sums]; rfl, by rw [cell_of_heap h.sums]; rfl, by rw [cell_of_heap h.sums]; rfl, by rw [cell_of_heap h.sums]; rfl, fun o => frozen_of_heap h.sums o⟩, by rw [cell_of_heap h.stk]; rfl, fun o => frozen_of_heap h.stk o⟩
theorem Enc.Row.cells {E : Enc α} {w : World} {B g n cap : Nat} {T : TypeId} {m : List α} (h : E.Row w B T (.slice (some ⟨g, 0, none⟩) n cap) m) {i : Nat} {x : α} (hx : m[i]? = some x) : (∀ c, c < E.k → w.cell? ⟨g, i * E.k + c, none⟩ = (E.enc x)[c]?) ∧ ∀ o, w.frozen? ⟨g, o, none⟩ = false := by
 rcases h.forms with ⟨h1, _⟩ | ⟨g', cap', hv, _, _, _, hf, hrow⟩
 ·cases h1
 ·injection hv with a1 a2 a3
  injection a1 with a1
  injection a1 with a1
  subst a1
  exact ⟨fun c hc => hrow i x c hx hc, hf⟩
theorem RefB.open2 {w : World} {B q : Nat} {b : Bk} (h : RefB w B q b) (h1 : b.1 ≠ []) (h2 : b.2.1 ≠ []) : ∃ gG cG gL cL aS cS, w.heap[q]? = some (.cells #[.slice (some ⟨gG, 0, none⟩) b.1.length cG, .slice (some ⟨gL, 0, none⟩) b.2.1.length cL, .slice aS b.2.2.length cS] 78 (0, 0)) ∧ encGs.Row w B 120 (.slice (some ⟨gG, 0, none⟩) b.1.length cG) b.1 ∧ encLh.Row w B 131 (.slice (some ⟨gL, 0, none⟩) b.2.1.length cL) b.2.1 ∧ encLn.Row w 0 48 (.slice aS b.2.2.length cS) b.2.2 ∧ B ≤ q := by
 obtain ⟨vG, vL, vS, k1, k2, k3, k4, k5⟩ := h
 rcases k2.forms with ⟨_, h0⟩ | ⟨gG, cG, rfl, _⟩
 ·exact absurd h0 h1
 rcases k3.forms with ⟨_, h0⟩ | ⟨gL, cL, rfl, _⟩
 ·exact absurd h0 h2
 obtain ⟨aS, cS, rfl⟩ := k4.shape
 exact ⟨gG, cG, gL, cL, aS, cS, k1, k2, k3, k4, k5⟩
theorem Dw.boxes {w w1 : World} {B q gG cG gL cL : Nat} {vS : Value} {b : Bk} {e : En} (h : Dw w w1 B q b e) (k1 : w1.heap[q]? = some (.cells #[.slice (some ⟨gG, 0, none⟩) b.1.length cG, .slice (some ⟨gL, 0, none⟩) b.2.1.length cL, vS] 78 (0, 0))) (k2 : encGs.Row w1 B 120 (.slice (some ⟨gG, 0, none⟩) b.1.length cG) b.1) (k3 : encLh.Row w1 B 131 (.slice (some ⟨gL, 0, none⟩) b.2.1.length cL) b.2.1) (k4 : encLn.Row w1 0 48 vS b.2.2) (k5 : B ≤ q) (s1 s2 s3 s4 : Int) : ∃ W2 W3 : World,
  w1.alloc (.cells #[.int .i64 s1, .int .i64 s2, .int .i64 s3, .int .i64 s4] 118) = W2 ∧ W2.alloc (.cells #[vS] 76) = W3 ∧ Below w1.heap.size w1 W2 ∧
  Pw w W3 B q gG cG gL cL vS b e w1.heap.size W2.heap.size (s1, s2, s3, s4) vS := by
 have hb2 : Below w1.heap.size w1 (w1.alloc (.cells #[.int .i64 s1, .int .i64 s2, .int .i64 s3, .int .i64 s4] 118)) := (Below.refl _ _).alloc (Nat.le_refl _) _
 have n2 := heap_alloc_new w1 (.cells #[.int .i64 s1, .int .i64 s2, .int .i64 s3, .int .i64 s4] 118)
 refine ⟨_, _, rfl, rfl, hb2, ?_⟩
 generalize w1.alloc (.cells #[.int .i64 s1, .int .i64 s2, .int .i64 s3, .int .i64 s4] 118) = W2 at *
 have hb3 : Below W2.heap.size W2 (W2.alloc (.cells #[vS] 76)) := (Below.refl _ _).alloc (Nat.le_refl _) _
 have n3 := heap_alloc_new W2 (.cells #[vS] 76)
 have hb : Below w1.heap.size w1 (W2.alloc (.cells #[vS] 76)) := hb2.trans (hb3.mono hb2.size)
 have hd := h.go hb
 exact ⟨hd.below, (hb.block q (Array.getElem?_eq_some_iff.1 k1).1).trans k1, k2.below hb, k3.below hb, k4.below hb, k5, hd.ent, (hb3.block w1.heap.size (Array.getElem?_eq_some_iff.1 n2).1).trans n2, n3, h.below.size, Nat.le_trans h.below.size hb2.size⟩
end Go.Proofs.YtppodkkefegbkaaGreatDoor
namespace Go.Proofs.YtppodkkefegbkaaGreatDoor
open Go.RowKit Go.Lib Go.Sort
variable {α : Type}
theorem Enc.Row.heap {E : Enc α} {w : World} {B g n cap : Nat} {T : TypeId} {m : List α} (h : E.Row w B T (.slice (some ⟨g, 0, none⟩) n cap) m) : ∃ cur, w.heap[g]? = some (.cells cur T (0, 0)) := by
 rcases h.2 with ⟨h1, _⟩ | ⟨g', cap', cur, hv, _, hg, _⟩
 ·cases h1
 ·injection hv with a1 a2 a3
  injection a1 with a1
  injection a1 with a1
  subst a1
  exact ⟨cur, hg⟩
structure Fw (w W : World) (B q gG cG gL cL nG nL : Nat) (vS : Value) (mG : List Gs) (mL : List Lh) (mS : List Ln) (sb : Nat) (s : Su) : Prop where
 below : Turn B w W
 blk : W.heap[q]? = some (.cells #[.slice (some ⟨gG, 0, none⟩) nG cG, .slice (some ⟨gL, 0, none⟩) nL cL, vS] 78 (0, 0))
 G : encGs.Row W B 120 (.slice (some ⟨gG, 0, none⟩) nG cG) mG
 L : encLh.Row W B 131 (.slice (some ⟨gL, 0, none⟩) nL cL) mL
 S : encLn.Row W 0 48 vS mS
 qB : B ≤ q
 sums : W.heap[sb]? = some (.cells #[.int .i64 s.1, .int .i64 s.2.1, .int .i64 s.2.2.1, .int .i64 s.2.2.2] 118 (0, 0))
theorem Fw.lot {w W : World} {B q gG cG gL cL nG nL : Nat} {vS : Value} {mG : List Gs} {mL : List Lh} {mS : List Ln} {sb : Nat} {s : Su} (h : Fw w W B q gG cG gL cL nG nL vS mG mL mS sb s) {k c : Nat} {x y : Lh} {v : Value} {o : Nat} (hx : mL[k]? = some x) (hc : c < 5) (hy : encLh.enc y = (encLh.enc x).set c v) (ho : o = k * 5 + c) : Fw w (W.setCell ⟨gL, o, none⟩ v) B q gG cG gL cL nG nL vS mG (mL.set k y) mS sb s := by
 obtain ⟨cu, hu⟩ := h.L.heap
 exact ⟨h.below.set (h.L.lt rfl).1 (Or.inr (Or.inr rfl)) hu v, block_set h.blk (block_ne h.blk hu (by decide)) v, h.G.setOther (h.G.apart hu (by decide)) v, h.L.set1 hx hc hy ho, h.S.setOther (h.S.apart hu (by decide)) v, h.qB, block_set h.sums (block_ne h.sums hu (by decide)) v⟩
theorem Fw.goods {w W : World} {B q gG cG gL cL nG nL : Nat} {vS : Value} {mG : List Gs} {mL : List Lh} {mS : List Ln} {sb : Nat} {s : Su} (h : Fw w W B q gG cG gL cL nG nL vS mG mL mS sb s) {k c : Nat} {x y : Gs} {v : Value} {o : Nat} (hx : mG[k]? = some x) (hc : c < 6) (hy : encGs.enc y = (encGs.enc x).set c v) (ho : o = k * 6 + c) : Fw w (W.setCell ⟨gG, o, none⟩ v) B q gG cG gL cL nG nL vS (mG.set k y) mL mS sb s := by
 obtain ⟨cu, hu⟩ := h.G.heap
 exact ⟨h.below.set (h.G.lt rfl).1 (Or.inr (Or.inl rfl)) hu v, block_set h.blk (block_ne h.blk hu (by decide)) v, h.G.set1 hx hc hy ho, h.L.setOther (h.L.apart hu (by decide)) v, h.S.setOther (h.S.apart hu (by decide)) v, h.qB, block_set h.sums (block_ne h.sums hu (by decide)) v⟩
theorem Fw.drew {w W : World} {B q gG cG gL cL nG nL : Nat} {vS : Value} {mG : List Gs} {mL : List Lh} {mS : List Ln} {sb : Nat} {s : Su} (h : Fw w W B q gG cG gL cL nG nL vS mG mL mS sb s) : Fw w W.drew B q gG cG gL cL nG nL vS mG mL mS sb s := by
 have hb : Below W.heap.size W W.drew := (Below.refl _ _).drew
 exact ⟨h.below.drew, (hb.block q (Array.getElem?_eq_some_iff.1 h.blk).1).trans h.blk, h.G.below hb, h.L.below hb, h.S.below hb, h.qB, (hb.block sb (Array.getElem?_eq_some_iff.1 h.sums).1).trans h.sums⟩
theorem Pw.stock {w W : World} {B q gG cG gL cL : Nat} {vS : Value} {b : Bk} {e : En} {sb tb : Nat} {s : Su} {vt : Value} (h : Pw w W B q gG cG gL cL vS b e sb tb s vt) (hB : B ≤ w.heap.size) {m : List Ln} (hm : encLn.Row W 0 48 vt m) : Fw w (W.setCell ⟨q, 2, none⟩ vt) B q gG cG gL cL b.1.length b.2.1.length vt b.1 b.2.1 m sb s :=
 ⟨(Turn.of h.below hB).set h.qB (Or.inl rfl) h.blk vt, set_cell h.blk 2 vt rfl, h.G.setOther (h.G.apart h.blk (by decide)) vt, h.L.setOther (h.L.apart h.blk (by decide)) vt, hm.setOther (hm.apart h.blk (by decide)) vt, h.qB, block_set h.sums (block_ne h.sums h.blk (by decide)) vt⟩
theorem set_get {m : List α} {k : Nat} {x y : α} (h : m[k]? = some x) : (m.set k y)[k]? = some y := by
 rw [List.getElem?_set_self (List.getElem?_eq_some_iff.1 h).1]
theorem set_twice (m : List α) (k : Nat) (x y : α) : (m.set k x).set k y = m.set k y := by rw [List.set_set]
theorem Pw.fin {w W : World} {B q gG cG gL cL : Nat} {vS : Value} {b : Bk} {e : En} {sb tb : Nat} {s : Su} {vt : Value} (h : Pw w W B q gG cG gL cL vS b e sb tb s vt) (hB : B ≤ w.heap.size) {m : List Ln} (hm : encLn.Row W 0 48 vt m) {k i : Nat} {l : Lh} {g : Gs} (hl : b.2.1[k]? = some l) (hg : b.1[i]? = some g) (hd : Int) : ∃ W1 W2 W3 W4 W5 W6 : World,
  W.setCell ⟨q, 2, none⟩ vt = W1 ∧ W1.setCell ⟨gL, k * 5 + 4, none⟩ (.int .i64 hd) = W2 ∧ W2.drew.setCell ⟨gG, i * 6 + 2, none⟩ (.int .i64 s.1) = W3 ∧ W3.setCell ⟨gG, i * 6 + 3, none⟩ (.int .i64 s.2.1) = W4 ∧ W4.setCell ⟨gG, i * 6 + 4, none⟩ (.int .i64 s.2.2.1) = W5 ∧ W5.setCell ⟨gG, i * 6 + 5, none⟩ (.int .i64 s.2.2.2) = W6 ∧
  (W1.cell? ⟨q, 1, none⟩ = some (.slice (some ⟨gL, 0, none⟩) b.2.1.length cL) ∧ W1.cell? ⟨gL, k * 5 + 4, none⟩ = some (.int .i64 l.2) ∧ ∀ o, W1.frozen? ⟨gL, o, none⟩ = false) ∧
  (W2.drew.cell? ⟨q, 0, none⟩ = some (.slice (some ⟨gG, 0, none⟩) b.1.length cG) ∧ (W2.drew.cell? ⟨sb, 0, none⟩ = some (.int .i64 s.1) ∧ W2.drew.cell? ⟨sb, 1, none⟩ = some (.int .i64 s.2.1) ∧ W2.drew.cell? ⟨sb, 2, none⟩ = some (.int .i64 s.2.2.1) ∧ W2.drew.cell? ⟨sb, 3, none⟩ = some (.int .i64 s.2.2.2)) ∧ W2.drew.cell? ⟨gG, i * 6 + 2, none⟩ = some (.int .i64 g.2.1) ∧ ∀ o, W2.drew.frozen? ⟨gG, o, none⟩ = false) ∧
  (W3.cell? ⟨gG, i * 6 + 3, none⟩ = some (.int .i64 g.2.2.1) ∧ ∀ o, W3.frozen? ⟨gG, o, none⟩ = false) ∧
  (W4.cell? ⟨gG, i * 6 + 4, none⟩ = some (.int .i64 g.2.2.2.1) ∧ ∀ o, W4.frozen? ⟨gG, o, none⟩ = false) ∧
  (W5.cell? ⟨gG, i * 6 + 5, none⟩ = some (.int .i64 g.2.2.2.2) ∧ ∀ o, W5.frozen? ⟨gG, o, none⟩ = false) ∧
  (W6.cell? ⟨q, 0, none⟩ = some (.slice (some ⟨gG, 0, none⟩) b.1.length cG) ∧ W6.cell? ⟨sb, 0, none⟩ = some (.int .i64 s.1) ∧ W6.cell? ⟨sb, 1, none⟩ = some (.int .i64 s.2.1) ∧ W6.cell? ⟨sb, 2, none⟩ = some (.int .i64 s.2.2.1) ∧ W6.cell? ⟨sb, 3, none⟩ = some (.int .i64 s.2.2.2)) ∧
  RefB W6 B q (b.1.set i (g.1, s), b.2.1.set k (l.1, hd), m) ∧ Turn B w W6 := by
 have f1 := h.stock hB hm
 have f2 := f1.lot (y := (l.1, hd)) (v := .int .i64 hd) (c := 4) (o := k * 5 + 4) hl (by decide) rfl rfl
 have f2' := f2.drew
 have f3 := f2'.goods (y := (g.1, s.1, g.2.2)) (v := .int .i64 s.1) (c := 2) (o := i * 6 + 2) hg (by decide) rfl rfl
 have f4 := f3.goods (y := (g.1, s.1, s.2.1, g.2.2.2)) (v := .int .i64 s.2.1) (c := 3) (o := i * 6 + 3) (set_get hg) (by decide) rfl rfl
 rw [set_twice] at f4
 have f5 := f4.goods (y := (g.1, s.1, s.2.1, s.2.2.1, g.2.2.2.2)) (v := .int .i64 s.2.2.1) (c := 4) (o := i * 6 + 4) (set_get hg) (by decide) rfl rfl
 rw [set_twice] at f5
 have f6 := f5.goods (y := (g.1, s)) (v := .int .i64 s.2.2.2) (c := 5) (o := i * 6 + 5) (set_get hg) (by decide) rfl rfl
 rw [set_twice] at f6
 refine ⟨_, _, _, _, _, _, rfl, rfl, rfl, rfl, rfl, rfl, ⟨?_, ?_, ?_⟩, ⟨?_, ⟨?_, ?_, ?_, ?_⟩, ?_, ?_⟩, ⟨?_, ?_⟩, ⟨?_, ?_⟩, ⟨?_, ?_⟩, ⟨by rw [cell_of_heap f6.blk]; rfl, by rw [cell_of_heap f6.sums]; rfl, by rw [cell_of_heap f6.sums]; rfl, by rw [cell_of_heap f6.sums]; rfl, by rw [cell_of_heap f6.sums]; rfl⟩, ⟨_, _, _, f6.blk, f6.G, f6.L, f6.S, f6.qB⟩, f6.below⟩
 ·rw [cell_of_heap f1.blk]; rfl
 ·exact ((f1.L.cells hl).1 4 (by decide)).trans rfl
 ·exact (f1.L.cells hl).2
 ·rw [cell_of_heap f2'.blk]; rfl
 ·rw [cell_of_heap f2'.sums]; rfl
 ·rw [cell_of_heap f2'.sums]; rfl
 ·rw [cell_of_heap f2'.sums]; rfl
 ·rw [cell_of_heap f2'.sums]; rfl
 ·exact ((f2'.G.cells hg).1 2 (by decide)).trans rfl
 ·exact (f2'.G.cells hg).2
 ·exact ((f3.G.cells (set_get hg)).1 3 (by decide)).trans rfl
 ·exact (f3.G.cells (set_get hg)).2
 ·exact ((f4.G.cells (set_get hg)).1 4 (by decide)).trans rfl
 ·exact (f4.G.cells (set_get hg)).2
 ·exact ((f5.G.cells (set_get hg)).1 5 (by decide)).trans rfl
 ·exact (f5.G.cells (set_get hg)).2
end Go.Proofs.YtppodkkefegbkaaGreatDoor
namespace Go.Proofs.YtppodkkefegbkaaGreatDoor
open Go.RowKit Go.Lib Go.Sort
structure Dp (w : World) (B q : Nat) (b : Bk) (e : En) (k i : Nat) (l : Lh) (g : Gs) (kk : ByteArray) : Prop where
 h : RefB w B q b
 hz : SzE e
 hw : WfB b
 he : entErr e = 0
 hk : e.1 = kk
 hkL : findI nameL b.2.1 e.2.2.1.1 = (k : Int)
 hl : b.2.1[k]? = some l
 hiG : findI nameG b.1 l.1.2.1 = (i : Int)
 hg : b.1[i]? = some g
 hn1 : 1 ≤ e.2.2.2.2.2
 hn2 : e.2.2.2.2.2 ≤ 1099511627776
theorem Dp.all {w : World} {B q : Nat} {b : Bk} {e : En} {k i : Nat} {l : Lh} {g : Gs} {kk : ByteArray} (P : Dp w B q b e k i l g kk) (z1 : kk ≠ kGoods) (z2 : kk ≠ kLot) :
  Hid (∀ W, RefB W B q b → Calls Tryz.prog 51 #[.pointer (some ⟨q, 0, none⟩), .string e.2.2.1.1] W fun r w' => r = .returned (.int .i64 (k : Int)) ∧ w' = W) ∧
  Hid (∀ W, RefB W B q b → Calls Tryz.prog 61 #[.pointer (some ⟨q, 0, none⟩), .string l.1.2.1] W fun r w' => r = .returned (.int .i64 (i : Int)) ∧ w' = W) ∧
  (e.1.toList == kGoods.data.toList) = false ∧ (e.1.toList == kLot.data.toList) = false ∧ Hid (b.1 ≠ []) ∧ Hid (b.2.1 ≠ []) ∧ (k : Int) < (b.2.1.length : Int) ∧ (i : Int) < (b.1.length : Int) ∧
  0 ≤ g.2.1 ∧ 0 ≤ g.2.2.1 ∧ 0 ≤ g.2.2.2.1 ∧ 0 ≤ g.2.2.2.2 ∧ g.2.1 ≤ mostS ∧ g.2.2.1 ≤ mostS ∧ g.2.2.2.1 ≤ mostS ∧ g.2.2.2.2 ≤ mostS ∧ 0 ≤ l.2 ∧ l.2 ≤ 1099511627776 ∧ Hid (B ≤ w.heap.size) ∧ b.2.1.length ≤ 60 ∧ b.1.length ≤ 30 := by
 obtain ⟨h, hz, hw, he, hk, hkL, hl, hiG, hg, hn1, hn2⟩ := P
 obtain ⟨⟨u1, u2, u3, u4⟩, u5⟩ := hw.sums g (List.mem_of_getElem? hg)
 have u5' : (g.2.1 ≤ mostS ∧ g.2.2.1 ≤ mostS ∧ g.2.2.2.1 ≤ mostS ∧ g.2.2.2.2 ≤ mostS) := by unfold okSu at u5; simpa using u5
 obtain ⟨u6, u7, u8, u9⟩ := u5'
 obtain ⟨v1, v2⟩ := hw.held l (List.mem_of_getElem? hl)
 refine ⟨fun W hW => hkL ▸ findL_any W B q b e.2.2.1.1 hW (by have := hw.ll; omega), fun W hW => hiG ▸ findG_any W B q b l.1.2.1 hW (by have := hw.gl; omega), other_word (by rw [hk]; exact z1), other_word (by rw [hk]; exact z2), fun e9 => (by rw [e9] at hg; cases hg), fun e9 => (by rw [e9] at hl; cases hl), ?_, ?_, u1, u2, u3, u4, u6, u7, u8, u9, v1, Int.le_trans v2 (hw.st.most _), ?_, hw.ll, hw.gl⟩
 ·have := (List.getElem?_eq_some_iff.1 hl).1; omega
 ·have := (List.getElem?_eq_some_iff.1 hg).1; omega
 ·obtain ⟨_, _, _, h9, _, _, _, h8⟩ := h; exact Nat.le_trans h8 (Nat.le_of_lt (Array.getElem?_eq_some_iff.1 h9).1)
theorem Dw.opn {w w1 : World} {B q : Nat} {b : Bk} {e : En} {k i : Nat} {l : Lh} {g : Gs} (h1 : Dw w w1 B q b e) (nG : b.1 ≠ []) (nL : b.2.1 ≠ []) (Hl : b.2.1[k]? = some l) (Hg : b.1[i]? = some g) :
  ∃ gG cG gL cL aS cS, w1.cell? ⟨w.heap.size, 0, none⟩ = some (.string e.1) ∧ w1.cell? ⟨w.heap.size, 3, none⟩ = some (.string e.2.2.1.1) ∧ w1.cell? ⟨q, 0, none⟩ = some (.slice (some ⟨gG, 0, none⟩) b.1.length cG) ∧ w1.cell? ⟨q, 1, none⟩ = some (.slice (some ⟨gL, 0, none⟩) b.2.1.length cL) ∧
   w1.cell? ⟨gL, k * 5 + 1, none⟩ = some (.string l.1.2.1) ∧ w1.cell? ⟨gG, i * 6 + 2, none⟩ = some (.int .i64 g.2.1) ∧ w1.cell? ⟨gG, i * 6 + 3, none⟩ = some (.int .i64 g.2.2.1) ∧ w1.cell? ⟨gG, i * 6 + 4, none⟩ = some (.int .i64 g.2.2.2.1) ∧ w1.cell? ⟨gG, i * 6 + 5, none⟩ = some (.int .i64 g.2.2.2.2) ∧
   Hid (w1.heap[q]? = some (.cells #[.slice (some ⟨gG, 0, none⟩) b.1.length cG, .slice (some ⟨gL, 0, none⟩) b.2.1.length cL, .slice aS b.2.2.length cS] 78 (0, 0))) ∧ Hid (encGs.Row w1 B 120 (.slice (some ⟨gG, 0, none⟩) b.1.length cG) b.1) ∧ Hid (encLh.Row w1 B 131 (.slice (some ⟨gL, 0, none⟩) b.2.1.length cL) b.2.1) ∧ Hid (encLn.Row w1 0 48 (.slice aS b.2.2.length cS) b.2.2) ∧ B ≤ q := by
 obtain ⟨gG, cG, gL, cL, aS, cS, k1, k2, k3, k4, k5⟩ := h1.book.open2 nG nL
 exact ⟨gG, cG, gL, cL, aS, cS, h1.ent.at.c0, h1.ent.at.c3, by rw [cell_of_heap k1]; rfl, by rw [cell_of_heap k1]; rfl, ((k3.cells Hl).1 1 (by decide)).trans rfl, ((k2.cells Hg).1 2 (by decide)).trans rfl, ((k2.cells Hg).1 3 (by decide)).trans rfl, ((k2.cells Hg).1 4 (by decide)).trans rfl, ((k2.cells Hg).1 5 (by decide)).trans rfl, k1, k2, k3, k4, k5⟩
theorem Dw.box2 {w w1 : World} {B q gG cG gL cL cS : Nat} {aS : Option Addr} {b : Bk} {e : En} {k : Nat} {l : Lh} (h : Dw w w1 B q b e) (k1 : w1.heap[q]? = some (.cells #[.slice (some ⟨gG, 0, none⟩) b.1.length cG, .slice (some ⟨gL, 0, none⟩) b.2.1.length cL, .slice aS b.2.2.length cS] 78 (0, 0))) (k2 : encGs.Row w1 B 120 (.slice (some ⟨gG, 0, none⟩) b.1.length cG) b.1) (k3 : encLh.Row w1 B 131 (.slice (some ⟨gL, 0, none⟩) b.2.1.length cL) b.2.1) (k4 : encLn.Row w1 0 48 (.slice aS b.2.2.length cS) b.2.2) (k5 : B ≤ q) (Hl : b.2.1[k]? = some l) (s1 s2 s3 s4 : Int) :
  ∃ W2 W3 : World, w1.alloc (.cells #[.int .i64 s1, .int .i64 s2, .int .i64 s3, .int .i64 s4] 118) = W2 ∧ W2.alloc (.cells #[.slice aS b.2.2.length cS] 76) = W3 ∧ W2.cell? ⟨q, 1, none⟩ = some (.slice (some ⟨gL, 0, none⟩) b.2.1.length cL) ∧ W2.cell? ⟨q, 2, none⟩ = some (.slice aS b.2.2.length cS) ∧ W2.cell? ⟨gL, k * 5 + 4, none⟩ = some (.int .i64 l.2) ∧
   (W3.cell? ⟨q, 0, none⟩ = some (.slice (some ⟨gG, 0, none⟩) b.1.length cG) ∧ W3.cell? ⟨q, 1, none⟩ = some (.slice (some ⟨gL, 0, none⟩) b.2.1.length cL) ∧ W3.cell? ⟨q, 2, none⟩ = some (.slice aS b.2.2.length cS) ∧ ∀ o, W3.frozen? ⟨q, o, none⟩ = false) ∧
   (W3.cell? ⟨w1.heap.size, 0, none⟩ = some (.int .i64 s1) ∧ W3.cell? ⟨w1.heap.size, 1, none⟩ = some (.int .i64 s2) ∧ W3.cell? ⟨w1.heap.size, 2, none⟩ = some (.int .i64 s3) ∧ W3.cell? ⟨w1.heap.size, 3, none⟩ = some (.int .i64 s4) ∧ ∀ o, W3.frozen? ⟨w1.heap.size, o, none⟩ = false) ∧
   (W3.cell? ⟨W2.heap.size, 0, none⟩ = some (.slice aS b.2.2.length cS) ∧ ∀ o, W3.frozen? ⟨W2.heap.size, o, none⟩ = false) ∧
   EntAt W3 w.heap.size e ∧ Hid (Pw w W3 B q gG cG gL cL (.slice aS b.2.2.length cS) b e w1.heap.size W2.heap.size (s1, s2, s3, s4) (.slice aS b.2.2.length cS)) := by
 obtain ⟨W2, W3, q2, q3, hb2, h3⟩ := h.boxes k1 k2 k3 k4 k5 s1 s2 s3 s4
 have hq := (hb2.block q (Array.getElem?_eq_some_iff.1 k1).1).trans k1
 obtain ⟨m1, m2, m3⟩ := h3.cells
 exact ⟨W2, W3, q2, q3, by rw [cell_of_heap hq]; rfl, by rw [cell_of_heap hq]; rfl, (((k3.below hb2).cells Hl).1 4 (by decide)).trans rfl, m1, m2, m3, h3.ent.at, h3⟩
end Go.Proofs.YtppodkkefegbkaaGreatDoor
