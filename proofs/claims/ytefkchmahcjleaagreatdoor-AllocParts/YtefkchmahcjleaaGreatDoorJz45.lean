/-
 The law AllocParts answers true where the order of both can be placed: so can the two, one behind the other, and the books are one behind them.
-/
import Derived.Test.YtefkchmahcjleaaGreatDoorJz44
set_option maxRecDepth 100000
set_option maxHeartbeats 16000000
namespace Go.Proofs.YtefkchmahcjleaaGreatDoor
open Go.RowKit Go.Lib Go.Sort
theorem parts_fine (pp : Option Addr) (l : List En) (cap : Nat) (code : ByteArray) (a c day : Int) (w : World) (s : Nat → Addr) (hs : Sent w s) (hh : Handle w) (hz : ∀ e ∈ l, SzE e) (hr : l = [] ∨ ∃ bq off, pp = some ⟨bq, off, none⟩ ∧ Ents w bq off l) (h40 : l.length ≤ 40) (hno : longs l = false) (hcz : code.size ≤ 30) (a1 : 1 ≤ a) (a2 : a ≤ 549755813888) (c1 : 1 ≤ c) (c2 : c ≤ 549755813888) {p p1 p2 : List Ln} {b1 b2 : Bk} (O : Ord (bkTo l l.length) code day (a + c) p b2) (O1 : Ord (bkTo l l.length) code day a p1 b1) (O2 : Ord b1 code day c p2 b2) :
  Calls Tryz.prog 3 #[.slice pp l.length cap, .string code, .int .i64 a, .int .i64 c, .int .i64 day] w fun r w' => r = .returned (.bool true) ∧ Below w.heap.size w w' := by
 have HSt : Hid (Calls Tryz.prog 5 _ _ _) := planned_any w s hs.bs hs.ps
 have HLg : Hid (∀ W, Below w.heap.size w W → Calls Tryz.prog 6 #[.slice pp l.length cap, .int .i64 40] W fun r w' => r = .returned (.int .i64 0) ∧ Below W.heap.size W w') := fun W hb => by
  rcases hr with rfl | ⟨bq, off, rfl, hE⟩
  ·refine (longs_none pp cap 40 W (by decide)).mono ?_
   rintro r w' ⟨rfl, rfl⟩
   exact ⟨rfl, Below.refl _ _⟩
  ·have := longs_some l bq off cap 40 W (hE.below hE.lt hb) hz (by omega) (by decide)
   rw [hno] at this
   exact this
 have HOf : Hid (∀ W, Below w.heap.size w W → Calls Tryz.prog 7 #[.slice pp l.length cap] W fun e w' => ∃ x Bq q, e = .returned (.tuple #[.pointer (some ⟨x.p, 0, none⟩), .pointer (some ⟨q, 0, none⟩), .bool true]) ∧ IsBk w' w.heap.size x (bkTo l l.length) ∧ Below w.heap.size w w') := fun W hb => by
  refine (bookOf_any pp l cap W s (hs.below hb) (hh.below hb) hz (hr.imp id fun ⟨bq, off, h1, h2⟩ => ⟨bq, off, h1, h2.below h2.lt hb⟩) (by omega)).mono ?_
  rintro r w' ⟨x, Bq, q, h1, h2⟩
  exact ⟨x, Bq, q, h1, h2.prog.mono hb.size, hb.trans (h2.below.mono hb.size)⟩
 obtain ⟨nY, bY, pY, n0, n1, b0', b2', OY⟩ := orders_fun O1 O2
 clear O1 O2
 have hln : l.length ≤ 40 := h40
 have hps := hs.ps
 have hbs := hs.bs
 clear hs hh hz hr hno
 generalize bkTo l l.length = b at *
 generalize l.length = ln at *
 clear h40
 have HPx : Hid (∀ W S x y, Tb w S x y b b W → Calls Tryz.prog 9 #[.pointer (some ⟨x.p, 0, none⟩), .string code, .int .i64 (a + c), .int .i64 day] W fun e w' => ∃ v, e = .returned (.tuple #[v, .nilIface]) ∧ RowV w' v p ∧ Tb w S x y b b w') := fun W S x y h =>
  (tb_plan O h.X (hps.below h.B) hcz).mono fun e w' ⟨v, h1, h2, h3⟩ => ⟨v, h1, h2, h.below h3⟩
 have HOx : Hid (∀ W S x y v, Tb w S x y b b W → RowV W v p → Calls Tryz.prog 10 #[v] W fun e w' => ∃ g, e = .returned (.slice (some ⟨g, 0, none⟩) p.length p.length) ∧ g ∉ x.all ∧ Ents w' g 0 (p.map outEn) ∧ Tb w S x y b b w') := fun W S x y v h hv =>
  (tb_out hv O.len h.xl h.yl).mono fun e w' ⟨g, h1, ⟨h2, _⟩, h3, h4⟩ => ⟨g, h1, h2, h3, h.below h4⟩
 have HDx : Hid (∀ W S x y g k e, (p.map outEn)[k]? = some e → Tb w S x y (bkOuts b (p.take k)) b W → Ents W g 0 (p.map outEn) → g ∉ x.all → Calls Tryz.prog 11 #[.pointer (some ⟨x.p, 0, none⟩), agE e] W fun r w' => r = .returned .nilIface ∧ Tb w S x y (bkOuts b (p.take (k + 1))) b w' ∧ Ents w' g 0 (p.map outEn)) := fun W S x y g k e he h hE hg => by
  obtain ⟨q, hq, rfl⟩ := map_at he
  obtain ⟨f1, f2⟩ := O.F k q hq
  exact (h.doX hbs f2 f1).mono fun r w' ⟨h1, h2, h3⟩ => ⟨h1, h2, hE.off_ h3 hg⟩
 have HPy : Hid (∀ W S x y t k, k < 2 → Ty w S x y b2 (bY k) t a c W → Calls Tryz.prog 9 #[.pointer (some ⟨y.p, 0, none⟩), .string code, .int .i64 (nY k), .int .i64 day] W fun e w' => ∃ v, e = .returned (.tuple #[v, .nilIface]) ∧ RowV w' v (pY k) ∧ Ty w S x y b2 (bY k) t a c w') := fun W S x y t k hk h =>
  (tb_plan (OY k hk) h.T.Y (hps.below h.T.B) hcz).mono fun e w' ⟨v, h1, h2, h3⟩ => ⟨v, h1, h2, h.below h3⟩
 have HOy : Hid (∀ W S x y t k v, k < 2 → Ty w S x y b2 (bY k) t a c W → RowV W v (pY k) → Calls Tryz.prog 10 #[v] W fun e w' => ∃ g, e = .returned (.slice (some ⟨g, 0, none⟩) (pY k).length (pY k).length) ∧ g ∉ y.all ∧ Ents w' g 0 ((pY k).map outEn) ∧ Ty w S x y b2 (bY k) t a c w') := fun W S x y t k v hk h hv =>
  (tb_out hv (OY k hk).len h.T.xl h.T.yl).mono fun e w' ⟨g, h1, ⟨_, h2⟩, h3, h4⟩ => ⟨g, h1, h2, h3, h.below h4⟩
 have HDy : Hid (∀ W S x y t g k j e, k < 2 → ((pY k).map outEn)[j]? = some e → Ty w S x y b2 (bkOuts (bY k) ((pY k).take j)) t a c W → Ents W g 0 ((pY k).map outEn) → g ∉ y.all → Calls Tryz.prog 11 #[.pointer (some ⟨y.p, 0, none⟩), agE e] W fun r w' => r = .returned .nilIface ∧ Ty w S x y b2 (bkOuts (bY k) ((pY k).take (j + 1))) t a c w' ∧ Ents w' g 0 ((pY k).map outEn)) := fun W S x y t g k j e hk he h hE hg => by
  obtain ⟨q, hq, rfl⟩ := map_at he
  obtain ⟨f1, f2⟩ := (OY k hk).F j q hq
  obtain ⟨g1, g2⟩ := (OY k hk).G j
  exact (h.T.doY hbs f2 f1 g1 g2).mono fun r w' ⟨h1, h2, h3⟩ => ⟨h1, ⟨h2, (World.cell?_of_block (a := ⟨t, 0, none⟩) (h3.block t (cell_lt h.c0) h.ht)).trans h.c0, (World.cell?_of_block (a := ⟨t, 1, none⟩) (h3.block t (cell_lt h.c0) h.ht)).trans h.c1, h.ht⟩, hE.off_ h3 hg⟩
 have HT2 : Hid (∀ W S x y bq t k, k < 2 → Ty w S x y b2 bq t a c W → W.cell? ⟨t, k, none⟩ = some (.int .i64 (nY k))) := fun W S x y bq t k hk h => h.two n0 n1 hk
 have HNx : Hid (bkOuts b p = b2) := O.N
 have HNy : Hid (∀ k, k < 2 → bkOuts (bY k) (pY k) = bY (k + 1)) := fun k hk => (OY k hk).N
 have HLx : Hid (p.length ≤ 12000) := O.len
 have HLy : Hid (∀ k, k < 2 → (pY k).length ≤ 12000) := fun k hk => (OY k hk).len
 have HB0 : Hid (bY 0 = b) := b0'
 have HB2 : Hid (bY 2 = b2) := b2'
 clear O OY b0' b2' hps hbs n0 n1
 have hcz' : (code.size : Int) ≤ 30 := by omega
 go_enter Tryz.func3, Tryz.ntmps3
 go_wp2_with (first
  | (go_at_call 5; refine HSt.out.mono ?_; rintro r w1 ⟨rfl, hb1⟩; have HB1 : Hid (Below w.heap.size w w1) := hb1; clear hb1)
  | (go_at_call 6; refine (HLg.out _ HB1.out).mono ?_; rintro r w2 ⟨rfl, hb2⟩; have HB2' : Hid (Below w.heap.size w w2) := HB1.out.trans (hb2.mono HB1.out.size); clear hb2)
  | (go_at_call 7; refine (HOf.out _ HB2'.out).mono ?_; rintro r w3 ⟨x, Bq, q, rfl, hI3, hb3⟩; have HI3 : Hid (IsBk w3 w.heap.size x b) := hI3; have HB3 : Hid (Below w.heap.size w w3) := hb3; clear hI3 hb3)
  | (go_at_call 8; refine (bcopy_any _ _ _ _ HI3.out).mono ?_; rintro r w4 ⟨y, rfl, hy, hb4⟩; have HT4 : Hid (Tb w w3.heap.size x y b b w4) := ⟨HI3.out.below hb4, hy, fun k hk => (HI3.out.low k hk).2, HB3.out.size, HB3.out.trans (hb4.mono HB3.out.size)⟩; clear hy hb4)
  | (go_at_call 9; refine (HPx.out _ _ _ _ HT4.out).mono ?_; rintro r w5 ⟨v5, rfl, hv5, ht5⟩; have HV5 : Hid (RowV w5 v5 p) := hv5; have HT5 : Hid (Tb w w3.heap.size x y b b w5) := ht5; clear hv5 ht5)
  | (go_at_call 10; refine (HOx.out _ _ _ _ _ HT5.out HV5.out).mono ?_; rintro r w6 ⟨g, rfl, hg, hE6, ht6⟩; have HG : Hid (g ∉ x.all) := hg; have HE6 : Hid (Ents w6 g 0 (p.map outEn)) := hE6; have HT6 : Hid (Tb w w3.heap.size x y b b w6) := ht6; clear hg hE6 ht6))
 obtain ⟨S, hS⟩ : ∃ S, w3.heap.size = S := ⟨_, rfl⟩
 rw [hS] at HT6 HT5 HT4
 clear hS HT4 HT5 HV5 HI3 HB3 HB2' HB1 HSt HLg HOf HPx HOx
 obtain ⟨np, hnp⟩ : ∃ np, np = p.length := ⟨_, rfl⟩
 have HNp : Hid (np = p.length) := hnp
 have hnp2 : np ≤ 12000 := by rw [hnp]; exact HLx.out
 rw [← hnp]
 clear hnp
 go_loopw [19] (fun i wr => ∃ k : Nat, k ≤ np ∧ i = .int .i64 k ∧ Tb w S x y (bkOuts b (p.take k)) b wr ∧ Ents wr g 0 (p.map outEn)) (fun i _ => np - (RowKit.intOf i).toNat)
 case atStart => exact ⟨0, Nat.zero_le _, rfl, HT6.out, HE6.out⟩
 case round =>
  obtain ⟨k, hk, rfl, hT, hE⟩ := hrel
  by_cases hlt : k < np
  ·obtain ⟨e, he⟩ : ∃ e, (p.map outEn)[k]? = some e := ⟨_, List.getElem?_eq_getElem (by rw [List.length_map, ← HNp.out]; exact hlt)⟩
   obtain ⟨c0, c1', c2', c3, c4, c5, c6, c7, c8, c9, c10, c11, c12, c13⟩ := hE.at_ k e he
   have HD : Hid (Calls Tryz.prog 11 #[.pointer (some ⟨x.p, 0, none⟩), agE e] wr _) := HDx.out wr S x y g k e he hT hE HG.out
   clear he hT hE
   obtain ⟨ak, ⟨agc, agp⟩, ⟨ali, alc, alu, alk⟩, ⟨afz, afr, afb⟩, ⟨atz, atr, atb⟩, an⟩ := e
   unfold agE at HD
   simp only [Nat.zero_add] at c0 c1' c2' c3 c4 c5 c6 c7 c8 c9 c10 c11 c12 c13 HD
   go_wp2_with (go_at_call 11; refine HD.out.mono ?_; rintro r w7 ⟨rfl, hT7, hE7⟩; have HT7 : Hid (Tb w S x y (bkOuts b (p.take (k + 1))) b w7) := hT7; have HE7 : Hid (Ents w7 g 0 (p.map outEn)) := hE7; clear hT7 hE7 c0 c1' c2' c3 c4 c5 c6 c7 c8 c9 c10 c11 c12 c13)
   go_roundw
   case rel => exact ⟨k + 1, by omega, by go_num, HT7.out, HE7.out⟩
   case measure => simp [RowKit.intOf]; omega
  ·have hT8 : Tb w S x y b2 b wr := by
    have e : p.take k = p := List.take_of_length_le (by rw [← HNp.out]; omega)
    rw [e, HNx.out] at hT
    exact hT
   have HTy : Hid (Ty w S x y b2 (bY 0) wr.heap.size a c (wr.alloc (.cells #[.int .i64 a, .int .i64 c] 3))) := by
    show Ty _ _ _ _ _ _ _ _ _ _
    rw [HB0.out]
    have nq := heap_alloc_new wr (.cells #[.int .i64 a, .int .i64 c] 3)
    exact ⟨hT8.below ((Below.refl _ _).alloc (Nat.le_refl _) _), by rw [cell_of_heap nq]; rfl, by rw [cell_of_heap nq]; rfl, fun e => by have := hT8.yl _ e; omega⟩
   clear hT hE hT8
   go_wp2
   generalize wr.alloc (.cells #[.int .i64 a, .int .i64 c] 3) = W1 at *
   generalize wr.heap.size = t at *
   go_loopw [21] (fun i wr => ∃ k : Nat, k ≤ 2 ∧ i = .int .i64 k ∧ Ty w S x y b2 (bY k) t a c wr) (fun i _ => 2 - (RowKit.intOf i).toNat)
   case atStart => exact ⟨0, by omega, rfl, HTy.out⟩
   case round =>
    obtain ⟨k', hk', rfl, hT⟩ := hrel
    have HTk : Hid (Ty w S x y b2 (bY k') t a c wr) := hT
    clear hT
    by_cases hlt : k' < 2
    ·have cY := HT2.out wr S x y _ t k' hlt HTk.out
     have HP : Hid (Calls Tryz.prog 9 #[.pointer (some ⟨y.p, 0, none⟩), .string code, .int .i64 (nY k'), .int .i64 day] wr _) := HPy.out wr S x y t k' hlt HTk.out
     have hly := HLy.out k' hlt
     obtain ⟨nq, hnq⟩ : ∃ nq, nq = (pY k').length := ⟨_, rfl⟩
     have HNq : Hid (nq = (pY k').length) := hnq
     have HNn : Hid (bkOuts (bY k') (pY k') = bY (k' + 1)) := HNy.out k' hlt
     have HO : Hid (∀ W v, Ty w S x y b2 (bY k') t a c W → RowV W v (pY k') → Calls Tryz.prog 10 #[v] W fun e w' => ∃ g, e = .returned (.slice (some ⟨g, 0, none⟩) nq nq) ∧ g ∉ y.all ∧ Ents w' g 0 ((pY k').map outEn) ∧ Ty w S x y b2 (bY k') t a c w') := fun W v h hv => by rw [hnq]; exact HOy.out W S x y t k' v hlt h hv
     have HDk : Hid (∀ W g j e, ((pY k').map outEn)[j]? = some e → Ty w S x y b2 (bkOuts (bY k') ((pY k').take j)) t a c W → Ents W g 0 ((pY k').map outEn) → g ∉ y.all → Calls Tryz.prog 11 #[.pointer (some ⟨y.p, 0, none⟩), agE e] W fun r w' => r = .returned .nilIface ∧ Ty w S x y b2 (bkOuts (bY k') ((pY k').take (j + 1))) t a c w' ∧ Ents w' g 0 ((pY k').map outEn)) := fun W g j e => HDy.out W S x y t g k' j e hlt
     rw [← hnq] at hly
     clear hnq
     generalize nY k' = nk at *
     generalize pY k' = pk at *
     obtain ⟨bn, hbn⟩ : ∃ bn, bY (k' + 1) = bn := ⟨_, rfl⟩
     have HBn : Hid (bY (k' + 1) = bn) := hbn
     rw [hbn] at HNn
     clear hbn
     generalize bY k' = bk at *
     go_wp2_with (first
      | (go_at_call 9; refine HP.out.mono ?_; rintro r w8 ⟨v8, rfl, hv8, ht8⟩; have HV8 : Hid (RowV w8 v8 pk) := hv8; have HT8 : Hid (Ty w S x y b2 bk t a c w8) := ht8; clear hv8 ht8)
      | (go_at_call 10; refine (HO.out _ _ HT8.out HV8.out).mono ?_; rintro r w9 ⟨g', rfl, hg, hE9, ht9⟩; have HG' : Hid (g' ∉ y.all) := hg; have HE9 : Hid (Ents w9 g' 0 (pk.map outEn)) := hE9; have HT9 : Hid (Ty w S x y b2 bk t a c w9) := ht9; clear hg hE9 ht9))
     go_loopw [24] (fun i wr => ∃ j : Nat, j ≤ nq ∧ i = .int .i64 j ∧ Ty w S x y b2 (bkOuts bk (pk.take j)) t a c wr ∧ Ents wr g' 0 (pk.map outEn)) (fun i _ => nq - (RowKit.intOf i).toNat)
     case atStart => exact ⟨0, Nat.zero_le _, rfl, HT9.out, HE9.out⟩
     case round =>
      obtain ⟨j, hj, rfl, hT, hE⟩ := hrel
      by_cases hjl : j < nq
      ·obtain ⟨e, he⟩ : ∃ e, (pk.map outEn)[j]? = some e := ⟨_, List.getElem?_eq_getElem (by rw [List.length_map, ← HNq.out]; exact hjl)⟩
       obtain ⟨c0, c1', c2', c3, c4, c5, c6, c7, c8, c9, c10, c11, c12, c13⟩ := hE.at_ j e he
       have HD : Hid (Calls Tryz.prog 11 #[.pointer (some ⟨y.p, 0, none⟩), agE e] wr _) := HDk.out wr g' j e he hT hE HG'.out
       clear he hT hE cY
       obtain ⟨ak, ⟨agc, agp⟩, ⟨ali, alc, alu, alk⟩, ⟨afz, afr, afb⟩, ⟨atz, atr, atb⟩, an⟩ := e
       unfold agE at HD
       simp only [Nat.zero_add] at c0 c1' c2' c3 c4 c5 c6 c7 c8 c9 c10 c11 c12 c13 HD
       go_wp2_with (go_at_call 11; refine HD.out.mono ?_; rintro r w7 ⟨rfl, hT7, hE7⟩; have HT7 : Hid (Ty w S x y b2 (bkOuts bk (pk.take (j + 1))) t a c w7) := hT7; have HE7 : Hid (Ents w7 g' 0 (pk.map outEn)) := hE7; clear hT7 hE7 c0 c1' c2' c3 c4 c5 c6 c7 c8 c9 c10 c11 c12 c13)
       go_roundw
       case rel => exact ⟨j + 1, by omega, by go_num, HT7.out, HE7.out⟩
       case measure => simp [RowKit.intOf]; omega
      ·have hTn : Ty w S x y b2 bn t a c wr := by
        have e : pk.take j = pk := List.take_of_length_le (by rw [← HNq.out]; omega)
        rw [e, HNn.out] at hT
        exact hT
       have HTn : Hid (Ty w S x y b2 bn t a c wr) := hTn
       clear hTn hT hE cY
       go_wp2
       exact ⟨⟨k' + 1, by omega, by go_num, by rw [HBn.out]; exact HTn.out⟩, by simp [RowKit.intOf]; omega⟩
    ·have e2 : k' = 2 := by omega
     subst e2
     have hT9 : Ty w S x y b2 b2 t a c wr := by have := HTk.out; rw [HB2.out] at this; exact this
     have HSm : Hid (Calls Tryz.prog 12 _ wr _) := same_any wr _ _ x y b2 b2 hT9.T.X hT9.T.Y true (by simp)
     have HB9 : Hid (Below w.heap.size w wr) := hT9.T.B
     clear hT9
     go_wp2_with (go_at_call 12; refine HSm.out.mono ?_; rintro r wb ⟨rfl, hbb⟩; have HBb : Hid (Below w.heap.size w wb) := HB9.out.trans (hbb.mono HB9.out.size); clear hbb)
     go_ret
     exact ⟨rfl, HBb.out⟩
theorem parts_long (v : Value) (code : ByteArray) (a c day : Int) (w : World) (s : Nat → Addr) (hs : Sent w s) (hL : ∀ W, Below w.heap.size w W → Calls Tryz.prog 6 #[v, .int .i64 40] W fun r w' => r = .returned (.int .i64 1) ∧ Below W.heap.size W w') :
  Calls Tryz.prog 3 #[v, .string code, .int .i64 a, .int .i64 c, .int .i64 day] w fun r w' => r = .returned (.bool true) ∧ Below w.heap.size w w' := by
 have HSt : Hid (Calls Tryz.prog 5 _ _ _) := planned_any w s hs.bs hs.ps
 have HL : Hid (∀ W, Below w.heap.size w W → Calls Tryz.prog 6 #[v, .int .i64 40] W _) := hL
 clear hs hL
 go_enter Tryz.func3, Tryz.ntmps3
 go_wp2_with (first
  | (go_at_call 5; refine HSt.out.mono ?_; rintro r w1 ⟨rfl, hb1⟩; have HB1 : Hid (Below w.heap.size w w1) := hb1; clear hb1)
  | (go_at_call 6; refine (HL.out _ HB1.out).mono ?_; rintro r w2 ⟨rfl, hb2⟩; have HB2 : Hid (Below w.heap.size w w2) := HB1.out.trans (hb2.mono HB1.out.size); clear hb2))
 go_ret
 exact ⟨rfl, HB2.out⟩
theorem parts_far (v : Value) (code : ByteArray) (a c day : Int) (w : World) (s : Nat → Addr) (hs : Sent w s) (hL : ∀ W, Below w.heap.size w W → Calls Tryz.prog 6 #[v, .int .i64 40] W fun r w' => r = .returned (.int .i64 0) ∧ Below W.heap.size W w') (hx : ¬ (code.size ≤ 30 ∧ 1 ≤ a ∧ 1 ≤ c ∧ a ≤ 549755813888 ∧ c ≤ 549755813888)) :
  Calls Tryz.prog 3 #[v, .string code, .int .i64 a, .int .i64 c, .int .i64 day] w fun r w' => r = .returned (.bool true) ∧ Below w.heap.size w w' := by
 have HSt : Hid (Calls Tryz.prog 5 _ _ _) := planned_any w s hs.bs hs.ps
 have HL : Hid (∀ W, Below w.heap.size w W → Calls Tryz.prog 6 #[v, .int .i64 40] W _) := hL
 clear hs hL
 have hw : (30 < (code.size : Int)) ∨ ((code.size : Int) ≤ 30 ∧ a < 1) ∨ ((code.size : Int) ≤ 30 ∧ 1 ≤ a ∧ c < 1) ∨ ((code.size : Int) ≤ 30 ∧ 1 ≤ a ∧ 1 ≤ c ∧ 549755813888 < a) ∨ ((code.size : Int) ≤ 30 ∧ 1 ≤ a ∧ 1 ≤ c ∧ a ≤ 549755813888 ∧ 549755813888 < c) := by omega
 clear hx
 rcases hw with h1 | ⟨h1, h2⟩ | ⟨h1, h2, h3⟩ | ⟨h1, h2, h3, h4⟩ | ⟨h1, h2, h3, h4, h5⟩
 all_goals
  go_enter Tryz.func3, Tryz.ntmps3
  go_wp2_with (first
   | (go_at_call 5; refine HSt.out.mono ?_; rintro r w1 ⟨rfl, hb1⟩; have HB1 : Hid (Below w.heap.size w w1) := hb1; clear hb1)
   | (go_at_call 6; refine (HL.out _ HB1.out).mono ?_; rintro r w2 ⟨rfl, hb2⟩; have HB2 : Hid (Below w.heap.size w w2) := HB1.out.trans (hb2.mono HB1.out.size); clear hb2))
  go_ret
  exact ⟨rfl, HB2.out⟩
theorem parts_in (pp : Option Addr) (l : List En) (cap : Nat) (code : ByteArray) (a c day : Int) (w : World) (s : Nat → Addr) (hs : Sent w s) (hh : Handle w) (hz : ∀ e ∈ l, SzE e) (hr : l = [] ∨ ∃ bq off, pp = some ⟨bq, off, none⟩ ∧ Ents w bq off l) (h40 : l.length ≤ 40) (hno : longs l = false) (hx : code.size ≤ 30 ∧ 1 ≤ a ∧ 1 ≤ c ∧ a ≤ 549755813888 ∧ c ≤ 549755813888) :
  Calls Tryz.prog 3 #[.slice pp l.length cap, .string code, .int .i64 a, .int .i64 c, .int .i64 day] w fun r w' => r = .returned (.bool true) ∧ Below w.heap.size w w' := by
 obtain ⟨x1, x2, x3, x4, x5⟩ := hx
 by_cases hE : planE (bkTo l l.length) code (a + c) day = 0
 ·have hin : InB (bkTo l l.length) (40 * 1099511627776) := fun g hg => by
   have := bkTo_in l l.length g hg
   have h2 : (l.length : Int) * 1099511627776 ≤ 40 * 1099511627776 := Int.mul_le_mul_of_nonneg_right (by omega) (by decide)
   omega
  obtain ⟨p, p1, p2, b1, b2, O, O1, O2⟩ := orders_of (bkTo_ok l _) (bkTo_pac l _) hin (Nat.le_trans (bkTo_lots l l.length) h40) x2 x3 hE
  exact parts_fine pp l cap code a c day w s hs hh hz hr h40 hno x1 x2 x4 x3 x5 O O1 O2
 ·exact parts_err pp l cap code a c day w s hs hh hz hr h40 hno x1 x2 x4 x3 x5 hE
theorem allocParts_any (v : Value) (code : ByteArray) (a c day : Int) (w : World) (s : Nat → Addr) (hs : Sent w s) (hh : Handle w) (ho : (∃ ad c, v = .slice ad 0 c) ∨ ∃ b off c l, 1 ≤ l.length ∧ l.length ≤ maxLen ∧ v = .slice (some ⟨b, off, none⟩) l.length c ∧ Ents w b off l ∧ ∀ e ∈ l, SzE e) :
  Calls Tryz.prog 3 #[v, .string code, .int .i64 a, .int .i64 c, .int .i64 day] w fun r w' => r = .returned (.bool true) ∧ Below w.heap.size w w' := by
 by_cases hx : code.size ≤ 30 ∧ 1 ≤ a ∧ 1 ≤ c ∧ a ≤ 549755813888 ∧ c ≤ 549755813888
 ·rcases ho with ⟨ad, cp, rfl⟩ | ⟨b, off, cp, l, h1, hm, rfl, hE, hz⟩
  ·exact parts_in ad [] cp code a c day w s hs hh (by simp) (Or.inl rfl) (by decide) rfl hx
  ·by_cases h40 : l.length ≤ 40
   ·cases hl : longs l with
    | false => exact parts_in _ l cp code a c day w s hs hh hz (Or.inr ⟨b, off, rfl, hE⟩) h40 hl hx
    | true =>
     refine parts_long _ code a c day w s hs fun W hb => ?_
     have := longs_some l b off cp 40 W (hE.below hE.lt hb) hz (by omega) (by decide)
     rw [hl] at this
     exact this
   ·refine parts_long _ code a c day w s hs fun W hb => ?_
    refine (longs_many (some ⟨b, off, none⟩) l.length cp 40 W (by omega)).mono ?_
    rintro r w' ⟨rfl, rfl⟩
    exact ⟨rfl, Below.refl _ _⟩
 ·rcases ho with ⟨ad, cp, rfl⟩ | ⟨b, off, cp, l, h1, hm, rfl, hE, hz⟩
  ·refine parts_far _ code a c day w s hs (fun W hb => ?_) hx
   refine (longs_none ad cp 40 W (by decide)).mono ?_
   rintro r w' ⟨rfl, rfl⟩
   exact ⟨rfl, Below.refl _ _⟩
  ·by_cases h40 : l.length ≤ 40
   ·have hL := fun W (hb : Below w.heap.size w W) => longs_some l b off cp 40 W (hE.below hE.lt hb) hz (by omega) (by decide)
    cases hl : longs l with
    | false => rw [hl] at hL; exact parts_far _ code a c day w s hs hL hx
    | true => rw [hl] at hL; exact parts_long _ code a c day w s hs hL
   ·refine parts_long _ code a c day w s hs fun W hb => ?_
    refine (longs_many (some ⟨b, off, none⟩) l.length cp 40 W (by omega)).mono ?_
    rintro r w' ⟨rfl, rfl⟩
    exact ⟨rfl, Below.refl _ _⟩
end Go.Proofs.YtefkchmahcjleaaGreatDoor
