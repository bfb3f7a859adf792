/-
 What AsBook answers of a book of the program's and one of the reference's that hold the same: 1; nothing old is turned.
-/
import Derived.Test.YteomomeigbfeoaaGreatDoorJz31
import Derived.Test.YteomomeigbfeoaaGreatDoorJz21
import Derived.Test.YteomomeigbfeoaaGreatDoorJz29
import Derived.Test.YteomomeigbfeoaaGreatDoorJz38
import Derived.BigQuiet
import Derived.Test.YteomomeigbfeoaaGreatDoorJz14
import Derived.Lib.QuietBelow
import Derived.Test.YteomomeigbfeoaaGreatDoorJz3
set_option maxRecDepth 100000
set_option maxHeartbeats 16000000
namespace Go.Proofs.YteomomeigbfeoaaGreatDoor
open Go.RowKit Go.Lib Go.Sort
theorem RefB.later {w : World} {B q : Nat} {b : Bk} (h : RefB w B q b) : ∃ aG cG aL cL vS, ∀ W, Below w.heap.size w W → RefB W B q b ∧ W.cell? ⟨q, 0, none⟩ = some (.slice aG b.1.length cG) ∧ W.cell? ⟨q, 1, none⟩ = some (.slice aL b.2.1.length cL) ∧ W.cell? ⟨q, 2, none⟩ = some vS ∧ RefS W vS b.2.2 ∧
  (∀ i x, b.1[i]? = some x → ∃ g, aG = some ⟨g, 0, none⟩ ∧ ∀ k, k < 6 → W.cell? ⟨g, i * 6 + k, none⟩ = (encGs.enc x)[k]?) ∧ (∀ i x, b.2.1[i]? = some x → ∃ g, aL = some ⟨g, 0, none⟩ ∧ ∀ k, k < 5 → W.cell? ⟨g, i * 5 + k, none⟩ = (encLh.enc x)[k]?) := by
 have h0 := h
 obtain ⟨vG, vL, vS, h1, h2, h3, h4, h5⟩ := h
 obtain ⟨aG, cG, rfl, hG⟩ := h2.shape2
 obtain ⟨aL, cL, rfl, hL⟩ := h3.shape2
 refine ⟨aG, cG, aL, cL, vS, fun W hb => ?_⟩
 have hq := (hb.block q (Array.getElem?_eq_some_iff.1 h1).1).trans h1
 refine ⟨h0.below hb, by rw [cell_of_heap hq]; rfl, by rw [cell_of_heap hq]; rfl, by rw [cell_of_heap hq]; rfl, ?_, fun i x hx => ?_, fun i x hx => ?_⟩
 ·have := h4.below hb
  unfold Enc.Row at this
  rw [flat_flatN] at this
  exact this
 ·obtain ⟨g, e, hg, hc⟩ := hG i x hx
  exact ⟨g, e, fun k hk => (hb.cell (p := ⟨g, i * 6 + k, none⟩) hg).trans (hc k hk)⟩
 ·obtain ⟨g, e, hg, hc⟩ := hL i x hx
  exact ⟨g, e, fun k hk => (hb.cell (p := ⟨g, i * 5 + k, none⟩) hg).trans (hc k hk)⟩
theorem asBook_any (w : World) (s : Nat → Addr) (B Bq q : Nat) (x : Bl) (b : Bk) (hI : IsBk w B x b) (hR : RefB w Bq q b) (hO : Old6 w s) (h59 : b.2.1.length ≤ 59) :
  Calls Tryz.prog 24 #[.pointer (some ⟨x.p, 0, none⟩), .pointer (some ⟨q, 0, none⟩)] w fun e w' => e = .returned (.int .i64 1) ∧ Below w.heap.size w w' := by
 have hok := hI.ok
 have HOK : Hid (BkOk b) := hok
 obtain ⟨aG, cG, aL, cL, vS, hR⟩ := hR.later
 have HR : Hid (∀ W, Below w.heap.size w W → _) := hR
 have HI : Hid (∀ W, Below w.heap.size w W → IsBk W B x b) := fun W hb => hI.below hb
 have HG0 : Hid (Calls Tryz.prog 15 _ _ _) := bgoods_any w B x b hI
 have HAs : Hid (∀ W p b', Below w.heap.size w W → IsStock W p b' b.2.2 → Calls Tryz.prog 63 #[.pointer (some ⟨p, 0, none⟩), .agg #[vS]] W fun e w' => e = .returned (.int .i64 1) ∧ Below W.heap.size W w') := fun W p b' hb hs => asStock_any W s p b' b.2.2 vS hs (hR W hb).2.2.2.2.1 (hO.below hb)
 have HSt : Hid (∀ W, Below w.heap.size w W → Calls Tryz.prog 19 #[.pointer (some ⟨x.p, 0, none⟩)] W fun e w' => ∃ p' b', e = .returned (.pointer (some ⟨p', 0, none⟩)) ∧ IsStock w' p' b' b.2.2 ∧ Below W.heap.size W w') := fun W hb => (bstock_any W B x b (hI.below hb)).mono fun e w' ⟨p', b', h1, h2⟩ => ⟨p', b', h1, h2.st, h2.below⟩
 have H59 : Hid (b.2.1.length ≤ 59) := h59
 have HWf : Hid (WfB b) := hok.wf
 clear hI hO hR h59
 go_enter Tryz.func24, Tryz.ntmps24
 go_wp2_with (go_at_call 15; refine HG0.out.mono ?_; rintro e w1 ⟨vg, rfl, hg1, hb1⟩; obtain ⟨pg, cg, rfl, hg1'⟩ := hg1.shapeB; have HB1 : Hid (Below w.heap.size w w1) := hb1; have HB1d : Hid (Below w.heap.size w w1.drew) := hb1.drew; have HG1 : Hid (∀ i z W, b.1[i]? = some z → Below w1.heap.size w1 W → ∃ g, pg = some ⟨g, 0, none⟩ ∧ W.cell? ⟨g, i * 2, none⟩ = some (.string z.1.1) ∧ W.cell? ⟨g, i * 2 + 1, none⟩ = some (.int .i64 z.1.2)) := (fun i z W hz hW => by obtain ⟨g, h1, h2, h3, h4⟩ := hg1' i z hz; exact ⟨g, h1, (hW.cell (p := ⟨g, i * 2, none⟩) h2).trans h3, (hW.cell (p := ⟨g, i * 2 + 1, none⟩) h2).trans h4⟩); obtain ⟨_, r0, r1, r2, _⟩ := HR.out w1 hb1; obtain ⟨_, r0d, r1d, r2d, _⟩ := HR.out w1.drew hb1.drew; clear hg1 hg1' hb1)
 go_region_held3 (fun w' => w'.cell? ⟨q, 0, none⟩ = some (.slice aG b.1.length cG) ∧ w'.cell? ⟨q, 1, none⟩ = some (.slice aL b.2.1.length cL) ∧ w'.cell? ⟨q, 2, none⟩ = some vS) (go_keep) (first
  | (go_at_call 19; refine (HSt.out _ HB1d.out).mono ?_; rintro e w2 ⟨p', b', rfl, hs2, hb2⟩; have HB2 : Hid (Below w.heap.size w w2) := HB1d.out.trans (hb2.mono HB1d.out.size); have HB12 : Hid (Below w1.heap.size w1 w2) := ((Below.refl _ w1).drew).trans hb2; have HS2 : Hid (IsStock w2 p' b' b.2.2) := hs2; obtain ⟨_, u0, u1, u2, _⟩ := HR.out w2 HB2.out; clear hs2 hb2)
  | (go_at_call 63; refine (HAs.out _ _ _ HB2.out HS2.out).mono ?_; rintro e w3 ⟨rfl, hb3⟩; have HB3 : Hid (Below w.heap.size w w3) := HB2.out.trans (hb3.mono HB2.out.size); have HB13 : Hid (Below w1.heap.size w1 w3) := HB12.out.trans (hb3.mono HB12.out.size); obtain ⟨_, t0, t1, t2, _⟩ := HR.out w3 HB3.out; clear hb3))
 go_wp2_with fail
 clear t0 t1 t2
 have hgl30 : b.1.length ≤ 30 := HWf.out.gl
 obtain ⟨nG, hnG⟩ : ∃ nG, b.1.length = nG := ⟨_, rfl⟩
 rw [hnG] at hgl30 HR ⊢
 have HnG : Hid (b.1.length = nG) := hnG
 clear hnG
 go_loopw [6] (fun i wr => ∃ k : Nat, k ≤ nG ∧ i = .int .i64 k ∧ Below w3.heap.size w3 wr) (fun i _ => nG - (RowKit.intOf i).toNat)
 case atStart => exact ⟨0, Nat.zero_le _, rfl, Below.refl _ _⟩
 case round =>
  obtain ⟨k, hk, rfl, hwr⟩ := hrel
  obtain ⟨wo, hwo⟩ : ∃ wo, wo = wr := ⟨wr, rfl⟩
  subst hwo
  have Hwo : Hid (Below w3.heap.size w3 wo) := hwr
  have HBo : Hid (Below w.heap.size w wo) := HB3.out.trans (hwr.mono HB3.out.size)
  have HB1o : Hid (Below w1.heap.size w1 wo) := HB13.out.trans (hwr.mono HB13.out.size)
  clear hwr
  by_cases hlt : k < nG
  ·obtain ⟨y, hy⟩ : ∃ y, b.1[k]? = some y := ⟨_, List.getElem?_eq_getElem (by rw [HnG.out]; exact hlt)⟩
   have hym := List.mem_of_getElem? hy
   obtain ⟨g, rfl, hc0, hc1⟩ := HG1.out k y wo hy HB1o.out
   have HC : Hid (∀ W, Below w1.heap.size w1 W → W.cell? ⟨g, k * 2, none⟩ = some (.string y.1.1) ∧ W.cell? ⟨g, k * 2 + 1, none⟩ = some (.int .i64 y.1.2)) := fun W hb => by
    obtain ⟨g', h1, h2⟩ := HG1.out k y W hy hb
    cases h1
    exact h2
   obtain ⟨gR, hgR, _⟩ := (HR.out wo HBo.out).2.2.2.2.2.1 k y hy
   have HE : Hid (∀ W, Below w.heap.size w W → ∀ j, j < 6 → W.cell? ⟨gR, k * 6 + j, none⟩ = (encGs.enc y)[j]?) := fun W hb => by
    obtain ⟨g', h1, h2⟩ := (HR.out W hb).2.2.2.2.2.1 k y hy
    rw [hgR] at h1
    cases h1
    exact h2
   have hsz := (HI.out w (Below.refl _ _)).sizeG hym
   have hSu := bsums_any y.1.1 wo B x b (HI.out _ HBo.out) hsz
   have hs9 : sumsB b y.1.1 = y.2 := sumsB_mem HOK.out hym
   rw [hs9] at hSu
   have HSu : Hid (Calls Tryz.prog 16 _ wo _) := hSu
   have HLt : Hid (∀ W, Below w.heap.size w W → Calls Tryz.prog 20 #[.pointer (some ⟨x.p, 0, none⟩), .string y.1.1] W fun e w' => ∃ v d, e = .returned v ∧ LotsAt w' W.heap.size v d ∧ d.toList = lotsL y.1.1 b.2.1 ∧ Below W.heap.size W w') := fun W hb => (blots_any y.1.1 W B x b (HI.out _ hb) H59.out).mono fun e w' ⟨v, d, h1, h2, h3, h4, h5⟩ => ⟨v, d, h1, h2, lots_eq HOK.out h3 h4, h5⟩
   have HLo : Hid (∀ W, Below w.heap.size w W → Calls Tryz.prog 64 #[.pointer (some ⟨q, 0, none⟩), .string y.1.1] W fun r w' => ∃ v, r = .returned v ∧ encLo.Row w' W.heap.size 26 v (lotsL y.1.1 b.2.1) ∧ Below W.heap.size W w') := fun W hb => refLots_any W Bq q b y.1.1 (HR.out W hb).1 HWf.out
   have HHa : Hid (∀ W, Below w.heap.size w W → Calls Tryz.prog 17 #[.pointer (some ⟨x.p, 0, none⟩), .string y.1.1] W fun e w' => e = .returned (.int .i64 (hasL b.2.2 y.1.1 b.2.1)) ∧ Below W.heap.size W w') := fun W hb => bhas_any y.1.1 W B x b (HI.out _ hb)
   have HHr : Hid (∀ W, Below w.heap.size w W → Calls Tryz.prog 65 #[.pointer (some ⟨q, 0, none⟩), .string y.1.1] W fun e w' => e = .returned (.int .i64 (hasL b.2.2 y.1.1 b.2.1)) ∧ Below W.heap.size W w') := fun W hb => refHas_any W Bq q b y.1.1 (HR.out W hb).1 HWf.out
   have HLl : Hid ((lotsL y.1.1 b.2.1).length ≤ 59) := by
    have h1 := (lotsL_take HOK.out y.1.1 b.2.1.length (Nat.le_refl _)).1.length_eq
    rw [List.take_length] at h1
    have h2 := lotsOf_le b.2.1 y.1.1
    have := H59.out
    show _ ≤ _
    omega
   have hq := fun W => eqG_run y.1 y.1 W
   have hgd := Tryz.guardGq
   subst hgR
   clear hSu hsz hym hy hs9
   generalize hasL b.2.2 y.1.1 b.2.1 = hv at *
   generalize lotsL y.1.1 b.2.1 = ll at *
   obtain ⟨⟨yc, yp⟩, si, so, sm, sl⟩ := y
   unfold agU at HSu
   simp only [decide_true] at hq
   simp only at hc0 hc1 HC HSu
   go_wp2_with (first | (go_at_call 16; refine HSu.out.mono ?_; rintro e w7 ⟨rfl, hb7⟩; have n7 := heap_alloc_new w7 (.cells #[.int .i64 si, .int .i64 so, .int .i64 sm, .int .i64 sl] 46); have hb7' : Below w.heap.size w (w7.alloc (.cells #[.int .i64 si, .int .i64 so, .int .i64 sm, .int .i64 sl] 46)) := (HBo.out.trans (hb7.mono HBo.out.size)).alloc (Nat.le_trans HBo.out.size hb7.size) _; have hb7o : Below w3.heap.size w3 (w7.alloc (.cells #[.int .i64 si, .int .i64 so, .int .i64 sm, .int .i64 sl] 46)) := (Hwo.out.trans (hb7.mono Hwo.out.size)).alloc (Nat.le_trans Hwo.out.size hb7.size) _; obtain ⟨W7, hW7⟩ : ∃ W7, w7.alloc (.cells #[.int .i64 si, .int .i64 so, .int .i64 sm, .int .i64 sl] 46) = W7 := ⟨_, rfl⟩; rw [hW7] at n7 hb7' hb7o; have HB7 : Hid (Below w.heap.size w W7) := hb7'; have HB37 : Hid (Below w3.heap.size w3 W7) := hb7o; have d0 : W7.cell? ⟨w7.heap.size, 0, none⟩ = some (.int .i64 si) := (by rw [cell_of_heap n7]; rfl); have d1 : W7.cell? ⟨w7.heap.size, 1, none⟩ = some (.int .i64 so) := (by rw [cell_of_heap n7]; rfl); have d2 : W7.cell? ⟨w7.heap.size, 2, none⟩ = some (.int .i64 sm) := (by rw [cell_of_heap n7]; rfl); have d3 : W7.cell? ⟨w7.heap.size, 3, none⟩ = some (.int .i64 sl) := (by rw [cell_of_heap n7]; rfl); obtain ⟨g0, g1⟩ := HC.out W7 (HB13.out.trans (hb7o.mono HB13.out.size)); obtain ⟨_, r0, r1, r2, _⟩ := HR.out W7 hb7'; have e0 : W7.cell? ⟨gR, k * 6, none⟩ = some (.string yc) := (HE.out W7 hb7' 0 (by decide)).trans rfl; have e1 : W7.cell? ⟨gR, k * 6 + 1, none⟩ = some (.int .i64 yp) := (HE.out W7 hb7' 1 (by decide)).trans rfl; have e2 : W7.cell? ⟨gR, k * 6 + 2, none⟩ = some (.int .i64 si) := (HE.out W7 hb7' 2 (by decide)).trans rfl; have e3 : W7.cell? ⟨gR, k * 6 + 3, none⟩ = some (.int .i64 so) := (HE.out W7 hb7' 3 (by decide)).trans rfl; have e4 : W7.cell? ⟨gR, k * 6 + 4, none⟩ = some (.int .i64 sm) := (HE.out W7 hb7' 4 (by decide)).trans rfl; have e5 : W7.cell? ⟨gR, k * 6 + 5, none⟩ = some (.int .i64 sl) := (HE.out W7 hb7' 5 (by decide)).trans rfl; clear n7 hb7 hb7' hb7o))
   go_quiet (fail)
   have HB7q : Hid (Below w.heap.size w (W7.drewN nq)) := below_drewN HB7.out nq
   have HB37q : Hid (Below w3.heap.size w3 (W7.drewN nq)) := below_drewN HB37.out nq
   clear e0 e1 e2 e3 e4 e5 d0 d1 d2 d3 g0 g1 r0 r1 r2
   generalize W7.drewN nq = W7q at *
   go_wp2_with (first
    | (go_at_call 20; refine (HLt.out _ HB7q.out).mono ?_; rintro e w8 ⟨vl, d, rfl, hld, hdl, hb8⟩; obtain ⟨pl, cl2, rfl, hl8⟩ := hld.shape4; have HL8 : Hid (∀ j, j < d.size → ∃ g, pl = some ⟨g, 0, none⟩ ∧ LotC w8 g (j * 4) d[j]!) := hl8; have HD8 : Hid (d.toList = ll) := hdl; have HB8 : Hid (Below w.heap.size w w8) := HB7q.out.trans (hb8.mono HB7q.out.size); have HB38 : Hid (Below w3.heap.size w3 w8) := HB37q.out.trans (hb8.mono HB37q.out.size); have hds : d.size = ll.length := (by rw [← hdl]; simp); clear hld hdl hb8 hl8)
    | (go_at_call 64; refine (HLo.out _ HB8.out).mono ?_; rintro e w9 ⟨vo, rfl, ho9, hb9⟩; obtain ⟨ao, co, rfl, ho9'⟩ := ho9.shape2; have HO9 : Hid (∀ i z, ll[i]? = some z → ∃ g, ao = some ⟨g, 0, none⟩ ∧ g < w9.heap.size ∧ ∀ k, k < 4 → w9.cell? ⟨g, i * 4 + k, none⟩ = (encLo.enc z)[k]?) := ho9'; have HB89 : Hid (Below w8.heap.size w8 w9) := hb9; have HB9 : Hid (Below w.heap.size w w9) := HB8.out.trans (hb9.mono HB8.out.size); have HB39 : Hid (Below w3.heap.size w3 w9) := HB38.out.trans (hb9.mono HB38.out.size); clear ho9 ho9' hb9)
    | (go_at_call 17; refine (HHa.out _ HB9.out).mono ?_; rintro e wa ⟨rfl, hba⟩; have HBa : Hid (Below w.heap.size w wa) := HB9.out.trans (hba.mono HB9.out.size); have HB9a : Hid (Below w9.heap.size w9 wa) := hba; clear hba)
    | (go_at_call 65; refine (HHr.out _ HBa.out).mono ?_; rintro e wb ⟨rfl, hbb⟩; have HBb : Hid (Below w.heap.size w wb) := HBa.out.trans (hbb.mono HBa.out.size); have HB9b : Hid (Below w9.heap.size w9 wb) := HB9a.out.trans (hbb.mono HB9a.out.size); clear hbb))
   clear HSu HLt HLo HHa HHr HC HE hq hgd hc0 hc1
   have hl59 := HLl.out
   have Hds : Hid (d.size = ll.length) := hds
   obtain ⟨nD, hnD⟩ : ∃ nD, ll.length = nD := ⟨_, rfl⟩
   have HnD : Hid (ll.length = nD) := hnD
   rw [hnD] at hl59 ⊢
   clear hnD hds
   go_loopw [11] (fun i wr => ∃ j : Nat, j ≤ nD ∧ i = .int .i64 j ∧ Below wb.heap.size wb wr) (fun i _ => nD - (RowKit.intOf i).toNat)
   case atStart => exact ⟨0, Nat.zero_le _, rfl, Below.refl _ _⟩
   case round =>
    obtain ⟨j, hj, rfl, hwj⟩ := hrel
    have Hwj : Hid (Below wb.heap.size wb wr) := hwj
    have HB9j : Hid (Below w9.heap.size w9 wr) := HB9b.out.trans (hwj.mono HB9b.out.size)
    clear hwj
    by_cases hjl : j < nD
    ·have hjd : j < d.size := by rw [Hds.out, HnD.out]; exact hjl
     obtain ⟨g2, rfl, hLC⟩ := HL8.out j hjd
     obtain ⟨l0, l1, l2, l3⟩ := hLC.below (HB89.out.trans (HB9j.out.mono HB89.out.size))
     have hlj : ll[j]? = some d[j]! := by rw [← HD8.out]; exact arr_get hjd
     obtain ⟨g3, rfl, hg3, hc3⟩ := HO9.out j _ hlj
     have m0 : wr.cell? ⟨g3, j * 4, none⟩ = some (.string d[j]!.1) := ((HB9j.out.cell (p := ⟨g3, j * 4, none⟩) hg3).trans (hc3 0 (by decide))).trans rfl
     have m1 : wr.cell? ⟨g3, j * 4 + 1, none⟩ = some (.string d[j]!.2.1) := ((HB9j.out.cell (p := ⟨g3, j * 4 + 1, none⟩) hg3).trans (hc3 1 (by decide))).trans rfl
     have m2 : wr.cell? ⟨g3, j * 4 + 2, none⟩ = some (.int .i64 d[j]!.2.2.1) := ((HB9j.out.cell (p := ⟨g3, j * 4 + 2, none⟩) hg3).trans (hc3 2 (by decide))).trans rfl
     have m3 : wr.cell? ⟨g3, j * 4 + 3, none⟩ = some (.int .i64 d[j]!.2.2.2) := ((HB9j.out.cell (p := ⟨g3, j * 4 + 3, none⟩) hg3).trans (hc3 3 (by decide))).trans rfl
     have hq := fun W => eqL9a_run d[j]! d[j]! W
     have hgd := Tryz.guardQq
     have f0 : (0 : Int) ≤ (j : Int) := by omega
     have f1 : (j : Int) < (nD : Int) := by omega
     clear hlj hc3 hLC hg3
     generalize d[j]! = dj at *
     obtain ⟨da, dc, du, dk⟩ := dj
     simp only [decide_true] at hq
     simp only at l0 l1 l2 l3 m0 m1 m2 m3
     go_wp2_with fail
     go_quiet (fail)
     go_wp2
     go_roundw
     case rel => exact ⟨j + 1, by omega, by go_num, below_drewN Hwj.out _⟩
     case measure => simp [RowKit.intOf]; omega
    ·go_wp2
     exact ⟨⟨k + 1, by omega, by go_num, HB39.out.trans (HB9j.out.mono HB39.out.size)⟩, by simp [RowKit.intOf]; omega⟩
  ·have hl59 := H59.out
   obtain ⟨nL, hnL⟩ : ∃ nL, b.2.1.length = nL := ⟨_, rfl⟩
   have HnL : Hid (b.2.1.length = nL) := hnL
   rw [hnL] at hl59 HR
   clear hnL
   obtain ⟨_, r0, r1, r2, _⟩ := HR.out wo HBo.out
   go_wp2_with fail
   clear r0 r1 r2
   go_loopw [12] (fun i wr => ∃ j : Nat, j ≤ nL ∧ i = .int .i64 j ∧ Below wo.heap.size wo wr) (fun i _ => nL - (RowKit.intOf i).toNat)
   case atStart => exact ⟨0, Nat.zero_le _, rfl, Below.refl _ _⟩
   case round =>
    obtain ⟨j, hj, rfl, hwj⟩ := hrel
    have Hwj : Hid (Below wo.heap.size wo wr) := hwj
    have HBj : Hid (Below w.heap.size w wr) := HBo.out.trans (hwj.mono HBo.out.size)
    clear hwj
    obtain ⟨_, r0, r1, r2, _, _, hL⟩ := HR.out wr HBj.out
    by_cases hjl : j < nL
    ·obtain ⟨l, hl⟩ : ∃ l, b.2.1[j]? = some l := ⟨_, List.getElem?_eq_getElem (by rw [HnL.out]; exact hjl)⟩
     have hlm := List.mem_of_getElem? hl
     obtain ⟨gL, rfl, hc⟩ := hL j l hl
     have HE : Hid (∀ W, Below w.heap.size w W → W.cell? ⟨q, 1, none⟩ = some (.slice (some ⟨gL, 0, none⟩) nL cL) ∧ ∀ i, i < 5 → W.cell? ⟨gL, j * 5 + i, none⟩ = (encLh.enc l)[i]?) := fun W hb => by
      have h9 := HR.out W hb
      obtain ⟨g', h1, h2⟩ := h9.2.2.2.2.2.2 j l hl
      cases h1
      exact ⟨h9.2.2.1, h2⟩
     have c0 : wr.cell? ⟨gL, j * 5, none⟩ = some (.string l.1.1) := (hc 0 (by decide)).trans rfl
     obtain ⟨q1, q2, q3⟩ := lot_there HOK.out hlm
     have hsz := (HI.out w (Below.refl _ _)).sizeL hlm
     have hLt := blot_any l.1.1 wr B x b (HI.out _ HBj.out) hsz
     rw [q1, q2] at hLt
     have HLt : Hid (Calls Tryz.prog 25 _ wr _) := hLt
     have HHe : Hid (∀ W, Below w.heap.size w W → Calls Tryz.prog 21 #[.pointer (some ⟨x.p, 0, none⟩), .string l.1.1] W fun e w' => e = .returned (.int .i64 l.2) ∧ Below W.heap.size W w') := fun W hb => by
      have h9 := bheld_any l.1.1 W B x b (HI.out _ hb) hsz
      rw [q3] at h9
      exact h9.mono fun e w' ⟨h1, h2⟩ => ⟨h1, h2 ▸ Below.refl _ _⟩
     have hq := fun W => eqL9a_run l.1 l.1 W
     have hgd := Tryz.guardQq
     have f0 : (0 : Int) ≤ (j : Int) := by omega
     have f1 : (j : Int) < (nL : Int) := by omega
     clear hL hc hLt q1 q2 q3 hsz hlm hl
     obtain ⟨⟨li, lc, lu, lk⟩, lh⟩ := l
     unfold agQ at HLt
     simp only [decide_true] at hq
     simp only at c0 HLt HHe
     go_wp2_with (go_at_call 25; refine HLt.out.mono ?_; rintro e w8 ⟨rfl, hb8⟩; have n8 := heap_alloc_new w8 (.cells #[.string li, .string lc, .int .i64 lu, .int .i64 lk] 26); have hb8' : Below wo.heap.size wo (w8.alloc (.cells #[.string li, .string lc, .int .i64 lu, .int .i64 lk] 26)) := (Hwj.out.trans (hb8.mono Hwj.out.size)).alloc (Nat.le_trans Hwj.out.size hb8.size) _; obtain ⟨W8, hW8⟩ : ∃ W8, w8.alloc (.cells #[.string li, .string lc, .int .i64 lu, .int .i64 lk] 26) = W8 := ⟨_, rfl⟩; rw [hW8] at n8 hb8'; have HB8 : Hid (Below wo.heap.size wo W8) := hb8'; have HBw8 : Hid (Below w.heap.size w W8) := HBo.out.trans (hb8'.mono HBo.out.size); have d0 : W8.cell? ⟨w8.heap.size, 0, none⟩ = some (.string li) := (by rw [cell_of_heap n8]; rfl); have d1 : W8.cell? ⟨w8.heap.size, 1, none⟩ = some (.string lc) := (by rw [cell_of_heap n8]; rfl); have d2 : W8.cell? ⟨w8.heap.size, 2, none⟩ = some (.int .i64 lu) := (by rw [cell_of_heap n8]; rfl); have d3 : W8.cell? ⟨w8.heap.size, 3, none⟩ = some (.int .i64 lk) := (by rw [cell_of_heap n8]; rfl); obtain ⟨t1, hc⟩ := HE.out W8 HBw8.out; have e0 : W8.cell? ⟨gL, j * 5, none⟩ = some (.string li) := (hc 0 (by decide)).trans rfl; have e1 : W8.cell? ⟨gL, j * 5 + 1, none⟩ = some (.string lc) := (hc 1 (by decide)).trans rfl; have e2 : W8.cell? ⟨gL, j * 5 + 2, none⟩ = some (.int .i64 lu) := (hc 2 (by decide)).trans rfl; have e3 : W8.cell? ⟨gL, j * 5 + 3, none⟩ = some (.int .i64 lk) := (hc 3 (by decide)).trans rfl; have e4 : W8.cell? ⟨gL, j * 5 + 4, none⟩ = some (.int .i64 lh) := (hc 4 (by decide)).trans rfl; clear n8 hb8 hb8' hc)
     have x0 := cell_regrown d0
     have x1 := cell_regrown d1
     have x2 := cell_regrown d2
     have x3 := cell_regrown d3
     have y0 := cell_regrown e0
     have y1 := cell_regrown e1
     have y2 := cell_regrown e2
     have y3 := cell_regrown e3
     have y4 := cell_regrown e4
     have yt := cell_regrown t1
     have hbR : ∀ dd os, Below w.heap.size w (grow (redrawn W8 dd) os) := fun dd os => HBw8.out.trans ((below_regrown W8 dd os).mono HBw8.out.size)
     have cH := fun dd os => Calls.regrown_of (w := W8) (d := dd) (os := os) (HHe.out _ (hbR dd os))
     refine wp_region_quiet_below (by kernel_rfl) (by kernel_rfl) ?_
     repeat (first | go_big_quiet_skip | quiet_step (first | (go_at_call 21; exact cH _ _)))
     refine wpQuiet_nil ?_
     intro _ hw'
     obtain ⟨⟨dq, osq⟩, hw''⟩ := hw'
     subst hw''
     have HBE : Hid (Below wo.heap.size wo (grow (redrawn W8 dq) osq)) := HB8.out.trans ((below_regrown W8 dq osq).mono HB8.out.size)
     clear x0 x1 x2 x3 y0 y1 y2 y3 y4 yt cH hbR d0 d1 d2 d3 e0 e1 e2 e3 e4 t1 r0 r1 r2 c0
     generalize grow (redrawn W8 dq) osq = WE at *
     go_wp2
     go_roundw
     case rel => exact ⟨j + 1, by omega, by go_num, HBE.out⟩
     case measure => simp [RowKit.intOf]; omega
    ·go_wp2
     go_ret
     exact ⟨rfl, HBj.out⟩
theorem refReplay_nil (ad : Option Addr) (cap : Nat) (w : World) :
  Calls Tryz.prog 29 #[.slice ad 0 cap] w fun r w' => r = .returned (.tuple #[.pointer (some ⟨w.heap.size + 1, 0, none⟩), .agg #[.int .i64 0, .int .i64 (-1)]]) ∧ RefB w' (w.heap.size + 1) (w.heap.size + 1) ([], [], []) ∧ Below w.heap.size w w' := by
 have hW1 : Below w.heap.size w (w.alloc (.cells #[.int .i64 0, .int .i64 0] 62)) := (Below.refl _ w).alloc (Nat.le_refl _) _
 have n1 := heap_alloc_new w (.cells #[.int .i64 0, .int .i64 0] 62)
 have s1 : (w.alloc (.cells #[.int .i64 0, .int .i64 0] 62)).heap.size = w.heap.size + 1 := by simp
 have nB := RefB.new (w.alloc (.cells #[.int .i64 0, .int .i64 0] 62))
 have hW2 : Below (w.heap.size + 1) (w.alloc (.cells #[.int .i64 0, .int .i64 0] 62)) ((w.alloc (.cells #[.int .i64 0, .int .i64 0] 62)).alloc (.cells #[.slice none 0 0, .slice none 0 0, .slice none 0 0] 88)) := (Below.refl _ _).alloc (by rw [s1]; exact Nat.le_refl _) _
 rw [s1] at nB
 have HF : Hid (((w.alloc (.cells #[.int .i64 0, .int .i64 0] 62)).alloc (.cells #[.slice none 0 0, .slice none 0 0, .slice none 0 0] 88)).heap[w.heap.size]? = some (.cells #[.int .i64 0, .int .i64 0] 62 (0, 0))) := (hW2.block w.heap.size (Nat.lt_succ_self _)).trans n1
 have HRf : Hid (RefB _ _ _ _) := nB
 have HBw : Hid (Below w.heap.size w _) := hW1.trans (hW2.mono (Nat.le_succ _))
 clear hW1 n1 nB hW2 s1
 go_enter Tryz.func29, Tryz.ntmps29
 go_wp2
 generalize (w.alloc (.cells #[.int .i64 0, .int .i64 0] 62)).alloc (.cells #[.slice none 0 0, .slice none 0 0, .slice none 0 0] 88) = wr at *
 refine wp_loop_rounds 1 ?_
 rw [rounds_succ]
 go_wp2_with (go_at_call 66; refine (fineR _).mono ?_; rintro r w3 ⟨rfl, hb3⟩; have HR3 : Hid (RefB _ _ _ _) := HRf.out.below hb3; have hf3 := (hb3.block w.heap.size (Array.getElem?_eq_some_iff.1 HF.out).1).trans HF.out; have HF3 : Hid (w3.heap[w.heap.size]? = _) := hf3; obtain ⟨W4, W5, e4, e5, ⟨t0, t1, tf⟩, ⟨t2, tg⟩, t3, t4, tfar, tb⟩ := two_set hf3 (.int .i64 0) (.int .i64 (-1)); have HT : Hid (∀ B w0, B ≤ w.heap.size → Below B w0 w3 → Below B w0 W5) := tb; have HFar : Hid (∀ g, g ≠ w.heap.size → W5.heap[g]? = w3.heap[g]?) := tfar; have HB3 : Hid (Below _ _ _) := hb3; clear tfar tb hb3 hf3)
 refine bodyPost_ret (v := .tuple #[.pointer (some ⟨w.heap.size + 1, 0, none⟩), .agg #[.int .i64 0, .int .i64 (-1)]]) (by simp [results, Tryz.results29, go_sem, t3, t4]) rfl ⟨rfl, ?_, ?_⟩
 ·exact HR3.out.far HF3.out HFar.out
 ·exact HT.out _ _ (Nat.le_refl _) (HBw.out.trans (HB3.out.mono HBw.out.size))
theorem refReplay_all (pp : Option Addr) (l : List En) (cap : Nat) (w : World) (hz : ∀ e ∈ l, SzE e) (hr : l = [] ∨ ∃ bq off, pp = some ⟨bq, off, none⟩ ∧ Ents w bq off l) (hn : l.length ≤ 1000) :
  Calls Tryz.prog 29 #[.slice pp l.length cap] w fun r w' => ((∀ j, j < l.length → errAt l j = 0) ∧ r = .returned (.tuple #[.pointer (some ⟨w.heap.size + 1, 0, none⟩), .agg #[.int .i64 0, .int .i64 (-1)]]) ∧ RefB w' (w.heap.size + 1) (w.heap.size + 1) (bkTo l l.length) ∨ ∃ k, k < l.length ∧ (∀ j, j < k → errAt l j = 0) ∧ errAt l k ≠ 0 ∧ r = .returned (.tuple #[.pointer none, .agg #[.int .i64 (errAt l k), .int .i64 k]])) ∧ Below w.heap.size w w' := by
 rcases hr with rfl | ⟨bq, off, rfl, hE⟩
 ·refine (refReplay_nil pp cap w).mono ?_
  rintro r w' ⟨h1, h2, h3⟩
  exact ⟨Or.inl ⟨fun j hj => absurd hj (Nat.not_lt_zero _), h1, h2⟩, h3⟩
 ·exact refReplay_some l bq off cap w hE hz hn
theorem first_one {f : Nat → Nat} {k k' : Nat} (h1 : ∀ j, j < k → f j = 0) (h2 : f k ≠ 0) (h1' : ∀ j, j < k' → f j = 0) (h2' : f k' ≠ 0) : k = k' := by
 rcases Nat.lt_trichotomy k k' with h | h | h
 ·exact absurd (h1' k h) h2
 ·exact h
 ·exact absurd (h1 k' h) h2'
theorem errs_first (l : List En) : ∀ n, (∀ j, j < n → errAt l j = 0) ∨ ∃ k, k < n ∧ (∀ j, j < k → errAt l j = 0) ∧ errAt l k ≠ 0
 | 0 => Or.inl fun j hj => absurd hj (Nat.not_lt_zero _)
 | n + 1 => by
  rcases errs_first l n with h | ⟨k, hk, h1, h2⟩
  ·by_cases h9 : errAt l n = 0
   ·exact Or.inl fun j hj => by
     rcases Nat.lt_or_ge j n with q | q
     ·exact h j q
     ·obtain rfl : j = n := by omega
      exact h9
   ·exact Or.inr ⟨n, Nat.lt_succ_self _, h, h9⟩
  ·exact Or.inr ⟨k, by omega, h1, h2⟩
theorem errAt_le (l : List En) (k : Nat) : errAt l k ≤ 12 := by
 unfold errAt
 split
 ·exact doB_le _ _
 ·decide
theorem none_goods {b : Bk} (hok : BkOk b) {c : ByteArray} (h : ∀ y ∈ b.1, nameG y ≠ c) : sumsB b c = zeroSu ∧ hasL b.2.2 c b.2.1 = 0 ∧ lotsOf b.2.1 c = [] := by
 have h2 : ∀ x ∈ b.2.1, x.1.2.1 ≠ c := fun x hx e => by
  obtain ⟨g, hg, e9⟩ := hok.wf.lots x hx
  exact h g hg (e9.trans e)
 refine ⟨?_, hasL_none h2, ?_⟩
 ·unfold sumsB
  rcases findN_cases nameG b.1 c with ⟨h1, _⟩ | ⟨x, _, hx, e⟩
  ·rw [h1]; rfl
  ·exact absurd e (h x hx)
 ·unfold lotsOf
  rw [List.filter_eq_nil_iff.2 fun x hx => by simpa using h2 x hx]; rfl
theorem none_lot {b : Bk} {c : ByteArray} (h : ∀ y ∈ b.2.1, nameL y ≠ c) : lotAt b c = zeroLo ∧ isLot b c = false ∧ heldB b c = 0 := by
 unfold lotAt isLot heldB
 rcases findN_cases nameL b.2.1 c with ⟨h1, _⟩ | ⟨x, _, hx, e⟩
 ·rw [h1]; exact ⟨rfl, rfl, rfl⟩
 ·exact absurd e (h x hx)
theorem some_lot {b : Bk} {c : ByteArray} {l : Lh} (hl : l ∈ b.2.1) (e : nameL l = c) : isLot b c = true := by
 unfold isLot
 rcases findN_cases nameL b.2.1 c with ⟨_, h1⟩ | ⟨x, h1, _, _⟩
 ·exact absurd e (h1 l hl)
 ·rw [h1]; rfl
theorem entG_map (b : Bk) : b.1.map entG = (gdsB b).map entGo := by unfold gdsB; rw [List.map_map]; rfl
theorem entU_map (b : Bk) : b.1.map entU = (susB b).map entUo := by unfold susB; rw [List.map_map]; rfl
theorem entL_map (b : Bk) : b.2.1.map entL = (losB b).map entQo := by unfold losB; rw [List.map_map]; rfl
theorem entH_map (b : Bk) : b.2.1.map entH = (hesB b).map entHo := by unfold hesB; rw [List.map_map]; rfl
theorem is_dec (p : Prop) : ∃ r : Bool, r = true ↔ p := by
 rcases Classical.em p with h | h
 ·exact ⟨true, by simp [h]⟩
 ·exact ⟨false, by simp [h]⟩
theorem same_as {r r' : Bool} {p : Prop} (h : r = true ↔ p) (h' : r' = true ↔ p) : r = r' := by
 cases r <;> cases r' <;> simp_all
structure SameW (w : World) (x y : Bl) (b b' : Bk) (px py : Nat) (r1 r2 r3 r4 r5 : Bool) : Prop where
 cx : ∀ W, Below w.heap.size w W → (W.cell? ⟨x.p, 0, none⟩ = some (.map (some x.g)) ∧ W.cell? ⟨x.p, 1, none⟩ = some (.map (some x.u)) ∧ W.cell? ⟨x.p, 2, none⟩ = some (.map (some x.l)) ∧ W.cell? ⟨x.p, 3, none⟩ = some (.map (some x.h)) ∧ W.cell? ⟨x.p, 4, none⟩ = some (.pointer (some ⟨px, 0, none⟩)))
 cy : ∀ W, Below w.heap.size w W → (W.cell? ⟨y.p, 0, none⟩ = some (.map (some y.g)) ∧ W.cell? ⟨y.p, 1, none⟩ = some (.map (some y.u)) ∧ W.cell? ⟨y.p, 2, none⟩ = some (.map (some y.l)) ∧ W.cell? ⟨y.p, 3, none⟩ = some (.map (some y.h)) ∧ W.cell? ⟨y.p, 4, none⟩ = some (.pointer (some ⟨py, 0, none⟩)))
 G : ∀ W, Below w.heap.size w W → Calls Tryz.prog 51 #[.map (some x.g), .map (some y.g)] W fun e w' => e = .returned (.bool r1) ∧ Below W.heap.size W w'
 U : ∀ W, Below w.heap.size w W → Calls Tryz.prog 52 #[.map (some x.u), .map (some y.u)] W fun e w' => e = .returned (.bool r2) ∧ Below W.heap.size W w'
 Q : ∀ W, Below w.heap.size w W → Calls Tryz.prog 53 #[.map (some x.l), .map (some y.l)] W fun e w' => e = .returned (.bool r3) ∧ Below W.heap.size W w'
 H : ∀ W, Below w.heap.size w W → Calls Tryz.prog 54 #[.map (some x.h), .map (some y.h)] W fun e w' => e = .returned (.bool r4) ∧ Below W.heap.size W w'
 lx : ∀ W, Below w.heap.size w W → Calls Tryz.prog 31 #[.pointer (some ⟨px, 0, none⟩)] W fun e w' => ∃ g c, e = .returned (.slice (some ⟨g, 0, none⟩) b.2.2.length c) ∧ RowN w' g b.2.2 ∧ Below W.heap.size W w'
 ly : ∀ W, Below w.heap.size w W → Calls Tryz.prog 31 #[.pointer (some ⟨py, 0, none⟩)] W fun e w' => ∃ g c, e = .returned (.slice (some ⟨g, 0, none⟩) b'.2.2.length c) ∧ RowN w' g b'.2.2 ∧ Below W.heap.size W w'
 N : ∀ W g g' c c', RowN W g b.2.2 → RowN W g' b'.2.2 → Calls Tryz.prog 55 #[.slice (some ⟨g, 0, none⟩) b.2.2.length c, .slice (some ⟨g', 0, none⟩) b'.2.2.length c'] W fun e w' => e = .returned (.bool r5) ∧ Below W.heap.size W w'
 wx : Calls Tryz.prog 41 #[.pointer (some ⟨x.p, 0, none⟩)] w fun e w' => e = .returned (.pointer (some ⟨x.p, 0, none⟩)) ∧ w' = w
 wy : Calls Tryz.prog 41 #[.pointer (some ⟨y.p, 0, none⟩)] w fun e w' => e = .returned (.pointer (some ⟨y.p, 0, none⟩)) ∧ w' = w
theorem SameW.of {w : World} {B1 B2 : Nat} {x y : Bl} {b b' : Bk} (h1 : IsBk w B1 x b) (h2 : IsBk w B2 y b') : ∃ px py r1 r2 r3 r4 r5, SameW w x y b b' px py r1 r2 r3 r4 r5 ∧ ((((r1 = true ∧ r2 = true) ∧ r3 = true) ∧ r4 = true) ∧ r5 = true ↔ b = b') := by
 have hwx := whole_any w B1 x b h1
 have hwy := whole_any w B2 y b' h2
 obtain ⟨px, qx, h1⟩ := h1
 obtain ⟨py, qy, h2⟩ := h2
 obtain ⟨r1, e1⟩ := is_dec ((gdsB b).Perm (gdsB b'))
 obtain ⟨r2, e2⟩ := is_dec ((susB b).Perm (susB b'))
 obtain ⟨r3, e3⟩ := is_dec ((losB b).Perm (losB b'))
 obtain ⟨r4, e4⟩ := is_dec ((hesB b).Perm (hesB b'))
 obtain ⟨r5, e5⟩ := is_dec (b.2.2 = b'.2.2)
 have k1 := h1.ok.wf.gl
 have k2 := h2.ok.wf.gl
 have k3 := h1.ok.wf.ll
 have k4 := h2.ok.wf.ll
 have k5 := h1.ok.wf.st.len
 have k6 := h2.ok.wf.st.len
 refine ⟨px, py, r1, r2, r3, r4, r5, { cx := ?_, cy := ?_, G := ?_, U := ?_, Q := ?_, H := ?_, lx := ?_, ly := ?_, N := ?_, wx := hwx, wy := hwy }, ?_⟩
 ·intro W hb
  obtain ⟨p0, p1, p2, p3, p4, _⟩ := (h1.all hb).cells
  exact ⟨p0, p1, p2, p3, p4⟩
 ·intro W hb
  obtain ⟨p0, p1, p2, p3, p4, _⟩ := (h2.all hb).cells
  exact ⟨p0, p1, p2, p3, p4⟩
 ·intro W hb
  refine (equalG_any W x.g y.g (gdsB b) (gdsB b') (by rw [← entG_map]; exact (h1.all hb).G) (by rw [← entG_map]; exact (h2.all hb).G) (by unfold gdsB; rw [List.length_map]; omega) (by unfold gdsB; rw [List.length_map]; omega)).mono ?_
  rintro e w' ⟨r, rfl, hr, hb'⟩
  exact ⟨by rw [same_as hr e1], hb'⟩
 ·intro W hb
  refine (equalU_any W x.u y.u (susB b) (susB b') (by rw [← entU_map]; exact (h1.all hb).U) (by rw [← entU_map]; exact (h2.all hb).U) (by unfold susB; rw [List.length_map]; omega) (by unfold susB; rw [List.length_map]; omega)).mono ?_
  rintro e w' ⟨r, rfl, hr, hb'⟩
  exact ⟨by rw [same_as hr e2], hb'⟩
 ·intro W hb
  refine (equalQ_any W x.l y.l (losB b) (losB b') (by rw [← entL_map]; exact (h1.all hb).L) (by rw [← entL_map]; exact (h2.all hb).L) (by unfold losB; rw [List.length_map]; omega) (by unfold losB; rw [List.length_map]; omega)).mono ?_
  rintro e w' ⟨r, rfl, hr, hb'⟩
  exact ⟨by rw [same_as hr e3], hb'⟩
 ·intro W hb
  refine (equalH_any W x.h y.h (hesB b) (hesB b') (by rw [← entH_map]; exact (h1.all hb).H) (by rw [← entH_map]; exact (h2.all hb).H) (by unfold hesB; rw [List.length_map]; omega) (by unfold hesB; rw [List.length_map]; omega)).mono ?_
  rintro e w' ⟨r, rfl, hr, hb'⟩
  exact ⟨by rw [same_as hr e4], hb'⟩
 ·intro W hb
  refine (lines_any W px qx b.2.2 (h1.all hb).S).mono ?_
  rintro e w' ⟨g, c, rfl, _, hr, hb'⟩
  exact ⟨g, c, rfl, hr, hb'⟩
 ·intro W hb
  refine (lines_any W py qy b'.2.2 (h2.all hb).S).mono ?_
  rintro e w' ⟨g, c, rfl, _, hr, hb'⟩
  exact ⟨g, c, rfl, hr, hb'⟩
 ·intro W g g' c c' hg hg'
  refine (equalN_any W g g' c c' b.2.2 b'.2.2 hg hg' (by omega) (by omega)).mono ?_
  rintro e w' ⟨r, rfl, hr, hb'⟩
  exact ⟨by rw [same_as hr e5], hb'⟩
 ·rw [e1, e2, e3, e4, e5]
  exact bk_same h1.ok h2.ok
theorem same_yes (w : World) (x y : Bl) (b b' : Bk) (px py : Nat) (r5 : Bool) (h : SameW w x y b b' px py true true true true r5) :
  Calls Tryz.prog 14 #[.pointer (some ⟨x.p, 0, none⟩), .pointer (some ⟨y.p, 0, none⟩)] w fun e w' => e = .returned (.bool r5) ∧ Below w.heap.size w w' := by
 have HW : Hid (SameW _ _ _ _ _ _ _ _ _ _ _ _) := h
 have HX : Hid (Calls Tryz.prog 41 _ _ _) := h.wx
 have HY : Hid (Calls Tryz.prog 41 _ _ _) := h.wy
 have HB0 : Hid (Below w.heap.size w w.drew) := (Below.refl _ w).drew
 obtain ⟨p0, p1, p2, p3, p4⟩ := h.cx w (Below.refl _ _)
 obtain ⟨q0, q1, q2, q3, q4⟩ := h.cy w (Below.refl _ _)
 clear h
 generalize b.2.2.length = lb at *
 generalize b'.2.2.length = lb' at *
 go_enter Tryz.func14, Tryz.ntmps14
 go_wp2_with (first
  | (go_at_call 41; refine HX.out.mono ?_; clear HX; rintro e w1 ⟨rfl, hw⟩; have hw' := hw.symm; subst hw')
  | (go_at_call 41; refine HY.out.mono ?_; rintro e w1 ⟨rfl, hw⟩; have hw' := hw.symm; subst hw'))
 go_region_held3 (fun w' => (w'.cell? ⟨x.p, 0, none⟩ = some (.map (some x.g)) ∧ w'.cell? ⟨x.p, 1, none⟩ = some (.map (some x.u)) ∧ w'.cell? ⟨x.p, 2, none⟩ = some (.map (some x.l)) ∧ w'.cell? ⟨x.p, 3, none⟩ = some (.map (some x.h)) ∧ w'.cell? ⟨x.p, 4, none⟩ = some (.pointer (some ⟨px, 0, none⟩))) ∧ (w'.cell? ⟨y.p, 0, none⟩ = some (.map (some y.g)) ∧ w'.cell? ⟨y.p, 1, none⟩ = some (.map (some y.u)) ∧ w'.cell? ⟨y.p, 2, none⟩ = some (.map (some y.l)) ∧ w'.cell? ⟨y.p, 3, none⟩ = some (.map (some y.h)) ∧ w'.cell? ⟨y.p, 4, none⟩ = some (.pointer (some ⟨py, 0, none⟩)))) (go_keep) (first
  | (go_at_call 51; refine (HW.out.G _ HB0.out).mono ?_; rintro e w2 ⟨rfl, hb⟩; have K1 : Hid (Below w.heap.size w w2) := HB0.out.trans (hb.mono HB0.out.size); obtain ⟨a0, a1, a2, a3, a4⟩ := HW.out.cx _ K1.out; obtain ⟨b0, b1, b2, b3, b4⟩ := HW.out.cy _ K1.out; clear hb)
  | (go_at_call 52; refine (HW.out.U _ K1.out).mono ?_; rintro e w3 ⟨rfl, hb⟩; have K2 : Hid (Below w.heap.size w w3) := K1.out.trans (hb.mono K1.out.size); obtain ⟨c0, c1, c2, c3, c4⟩ := HW.out.cx _ K2.out; obtain ⟨d0, d1, d2, d3, d4⟩ := HW.out.cy _ K2.out; clear hb)
  | (go_at_call 53; refine (HW.out.Q _ K2.out).mono ?_; rintro e w4 ⟨rfl, hb⟩; have K3 : Hid (Below w.heap.size w w4) := K2.out.trans (hb.mono K2.out.size); obtain ⟨e0, e1, e2, e3, e4⟩ := HW.out.cx _ K3.out; obtain ⟨f0, f1, f2, f3, f4⟩ := HW.out.cy _ K3.out; clear hb)
  | (go_at_call 54; refine (HW.out.H _ K3.out).mono ?_; rintro e w5 ⟨rfl, hb⟩; have K4 : Hid (Below w.heap.size w w5) := K3.out.trans (hb.mono K3.out.size); obtain ⟨g0, g1, g2, g3, g4⟩ := HW.out.cx _ K4.out; obtain ⟨h0, h1, h2, h3, h4⟩ := HW.out.cy _ K4.out; have HL : Hid (Calls Tryz.prog 31 _ w5 _) := HW.out.lx _ K4.out; clear hb)
  | (go_at_call 31; refine HL.out.mono ?_; clear HL; rintro e w6 ⟨gx, kx, rfl, hr, hb⟩; have K5 : Hid (Below w.heap.size w w6) := K4.out.trans (hb.mono K4.out.size); have R5 : Hid (RowN w6 gx b.2.2) := hr; obtain ⟨i0, i1, i2, i3, i4⟩ := HW.out.cx _ K5.out; obtain ⟨j0, j1, j2, j3, j4⟩ := HW.out.cy _ K5.out; clear hb hr)
  | (go_at_call 31; refine (HW.out.ly _ K5.out).mono ?_; rintro e w7 ⟨gy, ky, rfl, hr, hb⟩; have K6 : Hid (Below w.heap.size w w7) := K5.out.trans (hb.mono K5.out.size); have R6 : Hid (RowN w7 gx b.2.2) := R5.out.below hb; have R7 : Hid (RowN w7 gy b'.2.2) := hr; obtain ⟨l0, l1, l2, l3, l4⟩ := HW.out.cx _ K6.out; obtain ⟨m0, m1, m2, m3, m4⟩ := HW.out.cy _ K6.out; clear hb hr)
  | (go_at_call 55; refine (HW.out.N _ _ _ _ _ R6.out R7.out).mono ?_; rintro e w8 ⟨rfl, hb⟩; have K7 : Hid (Below w.heap.size w w8) := K6.out.trans (hb.mono K6.out.size); obtain ⟨n0, n1, n2, n3, n4⟩ := HW.out.cx _ K7.out; obtain ⟨o0, o1, o2, o3, o4⟩ := HW.out.cy _ K7.out; clear hb))
 go_wp2
 go_ret
 exact ⟨rfl, K7.out⟩
theorem same_no (w : World) (x y : Bl) (b b' : Bk) (px py : Nat) (r1 r2 r3 r4 r5 : Bool) (h : SameW w x y b b' px py r1 r2 r3 r4 r5) (hr : r1 = false ∨ r1 = true ∧ (r2 = false ∨ r2 = true ∧ (r3 = false ∨ r3 = true ∧ r4 = false))) :
  Calls Tryz.prog 14 #[.pointer (some ⟨x.p, 0, none⟩), .pointer (some ⟨y.p, 0, none⟩)] w fun e w' => e = .returned (.bool false) ∧ Below w.heap.size w w' := by
 have HX : Hid (Calls Tryz.prog 41 _ _ _) := h.wx
 have HY : Hid (Calls Tryz.prog 41 _ _ _) := h.wy
 obtain ⟨p0, p1, p2, p3, p4⟩ := h.cx w (Below.refl _ _)
 obtain ⟨q0, q1, q2, q3, q4⟩ := h.cy w (Below.refl _ _)
 have i0 := cell_regrown p0
 have i1 := cell_regrown p1
 have i2 := cell_regrown p2
 have i3 := cell_regrown p3
 have j0 := cell_regrown q0
 have j1 := cell_regrown q1
 have j2 := cell_regrown q2
 have j3 := cell_regrown q3
 have hbR : ∀ d os, Below w.heap.size w (grow (redrawn w d) os) := fun d os => below_regrown w d os
 have cG := fun d os => Calls.regrown_of (w := w) (d := d) (os := os) (h.G _ (hbR d os))
 have cU := fun d os => Calls.regrown_of (w := w) (d := d) (os := os) (h.U _ (hbR d os))
 have cQ := fun d os => Calls.regrown_of (w := w) (d := d) (os := os) (h.Q _ (hbR d os))
 have cH := fun d os => Calls.regrown_of (w := w) (d := d) (os := os) (h.H _ (hbR d os))
 clear h
 go_enter Tryz.func14, Tryz.ntmps14
 go_wp2_with (first
  | (go_at_call 41; refine HX.out.mono ?_; clear HX; rintro e w1 ⟨rfl, hw⟩; have hw' := hw.symm; subst hw')
  | (go_at_call 41; refine HY.out.mono ?_; rintro e w1 ⟨rfl, hw⟩; have hw' := hw.symm; subst hw'))
 rcases hr with rfl | ⟨rfl, rfl | ⟨rfl, rfl | ⟨rfl, rfl⟩⟩⟩
 all_goals
  refine wp_region_quiet_below (by kernel_rfl) (by kernel_rfl) ?_
  repeat (first | go_big_quiet_skip | quiet_step (first
   | (go_at_call 51; exact cG _ _)
   | (go_at_call 52; exact cU _ _)
   | (go_at_call 53; exact cQ _ _)
   | (go_at_call 54; exact cH _ _)))
  refine wpQuiet_nil ?_
  intro _ hw'
  obtain ⟨⟨dq, osq⟩, hw''⟩ := hw'
  subst hw''
  have hbE := below_regrown w dq osq
  generalize grow (redrawn w dq) osq = W2 at *
  go_wp2
  go_ret
  exact ⟨rfl, hbE⟩
theorem same_any (w : World) (B1 B2 : Nat) (x y : Bl) (b b' : Bk) (h1 : IsBk w B1 x b) (h2 : IsBk w B2 y b') (r : Bool) (hr : r = true ↔ b = b') :
  Calls Tryz.prog 14 #[.pointer (some ⟨x.p, 0, none⟩), .pointer (some ⟨y.p, 0, none⟩)] w fun e w' => e = .returned (.bool r) ∧ Below w.heap.size w w' := by
 obtain ⟨px, py, r1, r2, r3, r4, r5, h, hi⟩ := SameW.of h1 h2
 have hno : ¬ (((r1 = true ∧ r2 = true) ∧ r3 = true) ∧ r4 = true) → r = false := fun h9 => by
  cases r with
  | false => rfl
  | true => exact absurd (hi.2 (hr.1 rfl)).1 h9
 cases r1 with
 | false => rw [hno (by simp)]; exact same_no w x y b b' px py _ _ _ _ _ h (Or.inl rfl)
 | true => cases r2 with
  | false => rw [hno (by simp)]; exact same_no w x y b b' px py _ _ _ _ _ h (Or.inr ⟨rfl, Or.inl rfl⟩)
  | true => cases r3 with
   | false => rw [hno (by simp)]; exact same_no w x y b b' px py _ _ _ _ _ h (Or.inr ⟨rfl, Or.inr ⟨rfl, Or.inl rfl⟩⟩)
   | true => cases r4 with
    | false => rw [hno (by simp)]; exact same_no w x y b b' px py _ _ _ _ _ h (Or.inr ⟨rfl, Or.inr ⟨rfl, Or.inr ⟨rfl, rfl⟩⟩⟩)
    | true =>
     have : r = r5 := same_as hr (by rw [← hi]; simp)
     rw [this]
     exact same_yes w x y b b' px py r5 h
theorem Enc.Row.of_blocks {α : Type} {E : Enc α} {w w' : World} {B : Nat} {T : TypeId} {v : Value} {m : List α} (h : E.Row w B T v m) (hk : ∀ (g : Nat) (cur : Array Value), w.heap[g]? = some (Obj.cells cur T (0, 0)) → w'.heap[g]? = w.heap[g]?) : E.Row w' B T v m := by
 rcases h.2 with ⟨h1, h2⟩ | ⟨g, cap, cur, hv, hB, hg, h3, h4, h5, h6⟩
 ·exact ⟨h.1, Or.inl ⟨h1, h2⟩⟩
 ·exact ⟨h.1, Or.inr ⟨g, cap, cur, hv, hB, (hk g cur hg).trans hg, h3, h4, h5, h6⟩⟩
theorem RefB.off {w w' : World} {Bq q : Nat} {b b' : Bk} {B : Nat} {x : Bl} (h : RefB w Bq q b) (hx : IsBk w B x b') (hf : Off x.all w w') : RefB w' Bq q b := by
 obtain ⟨ps, bs, hx⟩ := hx
 have key : ∀ {g : Nat} {c : Array Value} {T : TypeId}, w.heap[g]? = some (.cells c T (0, 0)) → T ≠ 96 → w'.heap[g]? = w.heap[g]? := fun {g c T} hg hT => by
  refine hf.block g (Array.getElem?_eq_some_iff.1 hg).1 fun e => ?_
  have hm : ∀ {k : Nat} {L : List Ent}, MapL Tryz.prog 9 w k L → g ≠ k := fun hM e9 => by
   obtain ⟨es, ck, hb, _⟩ := hM
   rw [← e9, hg] at hb
   cases hb
  unfold Bl.all at e
  simp at e
  rcases e with e | e | e | e | e
  ·rw [e, hx.blk] at hg
   injection hg with hg
   injection hg with _ h2 _
   exact hT h2.symm
  ·exact hm hx.G e
  ·exact hm hx.U e
  ·exact hm hx.L e
  ·exact hm hx.H e
 obtain ⟨vG, vL, vS, h1, h2, h3, h4, h5⟩ := h
 exact ⟨vG, vL, vS, (key h1 (by decide)).trans h1, h2.of_blocks fun g c hg => key hg (by decide), h3.of_blocks fun g c hg => key hg (by decide), h4.of_blocks fun g c hg => key hg (by decide), h5⟩
theorem IsBk.turn {w w' : World} {B B' : Nat} {x : Bl} {b : Bk} (h : IsBk w B x b) (ht : Turn B' w w') : IsBk w' B x b := by
 obtain ⟨ps, bs, h⟩ := h
 have hm : ∀ {k : Nat} {L : List Ent} {kt : TypeId}, MapL Tryz.prog kt w k L → w'.heap[k]? = w.heap[k]? := fun {k L kt} hM => by
  rcases ht.keeps k hM.lt with e | ⟨c, f, c', f', T, hT, e1, e2⟩
  ·exact e
  ·obtain ⟨es, ck, hb, _⟩ := hM
   rw [hb] at e1
   cases e1
 have hc : ∀ {k : Nat} {c : Array Value} {T : TypeId}, w.heap[k]? = some (.cells c T (0, 0)) → ¬ refT T → w'.heap[k]? = w.heap[k]? := fun {k c T} hk hT => by
  rcases ht.keeps k (Array.getElem?_eq_some_iff.1 hk).1 with e | ⟨c, f, c', f', T', hT', e1, e2⟩
  ·exact e
  ·rw [hk] at e1
   injection e1 with e1
   injection e1 with _ e5 _
   subst e5
   exact absurd hT' hT
 refine ⟨ps, bs, h.of_blocks fun k hk => ?_⟩
 rcases hk with rfl | rfl | rfl | rfl | rfl | rfl | rfl
 ·exact hc h.blk (by unfold refT; decide)
 ·exact hm h.G
 ·exact hm h.U
 ·exact hm h.L
 ·exact hm h.H
 ·exact hc h.sblk (by unfold refT; decide)
 ·exact hm h.S.map
structure Both (w W : World) (x : Bl) (Bq q : Nat) (b : Bk) : Prop where
 below : Below w.heap.size w W
 prog : IsBk W w.heap.size x b
 ref : RefB W Bq q b
 base : w.heap.size ≤ Bq
theorem Both.later {w W W' : World} {x : Bl} {Bq q : Nat} {b : Bk} (h : Both w W x Bq q b) (hb : Below W.heap.size W W') : Both w W' x Bq q b := ⟨h.below.trans (hb.mono h.below.size), h.prog.below hb, h.ref.below hb, h.base⟩
theorem bookOf_any (pp : Option Addr) (l : List En) (cap : Nat) (w : World) (s : Nat → Addr) (hs : Sent w s) (hh : Handle w) (hz : ∀ e ∈ l, SzE e) (hr : l = [] ∨ ∃ bq off, pp = some ⟨bq, off, none⟩ ∧ Ents w bq off l) (h100 : l.length ≤ 1000) :
  Calls Tryz.prog 11 #[.slice pp l.length cap] w fun e w' => ∃ x Bq q, e = .returned (.tuple #[.pointer (some ⟨x.p, 0, none⟩), .pointer (some ⟨q, 0, none⟩), .bool true]) ∧ Both w w' x Bq q (bkTo l l.length) := by
 have HN : Hid (Calls Tryz.prog 18 _ _ _) := bnew_any w
 have HS : Hid (∀ W, Below w.heap.size w W → Sent W s ∧ Handle W) := fun W hb => ⟨hs.below hb, hh.below hb⟩
 have HZ : Hid (∀ e ∈ l, SzE e) := hz
 have HR : Hid (∀ W k e, l[k]? = some e → Below w.heap.size w W → ∃ bq off, pp = some ⟨bq, off, none⟩ ∧ EntO W bq (off + k * 14) e) := fun W k e he hb => by
  rcases hr with rfl | ⟨bq, off, h1, h2⟩
  ·simp at he
  ·exact ⟨bq, off, h1, (h2.below h2.lt hb).at_ k e he⟩
 obtain ⟨ln, hln⟩ : ∃ ln, l.length = ln := ⟨_, rfl⟩
 have HL : Hid (ln = l.length) := hln.symm
 rw [hln] at h100 ⊢
 clear hs hh hz hr hln
 go_enter Tryz.func11, Tryz.ntmps11
 go_wp2_with (go_at_call 18; refine HN.out.mono ?_; rintro e w1 ⟨x, rfl, hI, hb1⟩; have HI : Hid (IsBk _ _ _ _) := hI; have HB1 : Hid (Below _ _ _) := hb1; clear hI hb1)
 have hb2 : Below w1.heap.size w1 (w1.alloc (.cells #[.slice none 0 0, .slice none 0 0, .slice none 0 0] 88)) := (Below.refl _ w1).alloc (Nat.le_refl _) _
 have n2 := heap_alloc_new w1 (.cells #[.slice none 0 0, .slice none 0 0, .slice none 0 0] 88)
 have HBo : Hid (Both w (w1.alloc (.cells #[.slice none 0 0, .slice none 0 0, .slice none 0 0] 88)) x w1.heap.size w1.heap.size (bkTo l 0)) := ⟨HB1.out.trans (hb2.mono HB1.out.size), HI.out.below hb2, ⟨_, _, _, n2, World.ownsRow_nil _ _ _ _, World.ownsRow_nil _ _ _ _, World.ownsRow_nil _ _ _ _, Nat.le_refl _⟩, HB1.out.size⟩
 clear hb2 n2
 generalize hU : w1.alloc (.cells #[.slice none 0 0, .slice none 0 0, .slice none 0 0] 88) = U at *
 clear hU
 generalize w1.heap.size = q at *
 clear HI HB1
 go_loopw [7] (fun i wr => ∃ k : Nat, k ≤ ln ∧ i = .int .i64 k ∧ Both w wr x q q (bkTo l k)) (fun i _ => ln - (RowKit.intOf i).toNat)
 case atStart => exact ⟨0, Nat.zero_le _, rfl, HBo.out⟩
 case round =>
  obtain ⟨k, hk, rfl, hBo⟩ := hrel
  have HBk : Hid (Both _ _ _ _ _ _) := hBo
  by_cases hlt : k < ln
  ·have hkm : k < l.length := by rw [← HL.out]; exact hlt
   obtain ⟨e, he⟩ : ∃ e, l[k]? = some e := ⟨_, List.getElem?_eq_getElem hkm⟩
   have hze := HZ.out e (List.mem_of_getElem? he)
   obtain ⟨bq, off, rfl, hE⟩ := HR.out wr.drew k e he hBo.below.drew
   have hBd : Both w wr.drew x q q (bkTo l k) := hBo.later (Below.refl _ _).drew
   have hD := bdo_any wr.drew s w.heap.size x (bkTo l k) e hBd.prog hze (HS.out _ hBd.below).1.bs
   have HD2 : Hid (∀ W, Below w.heap.size w W → IsBk W w.heap.size x (bkTo l (k + 1)) → RefB W q q (bkTo l k) → w.heap.size ≤ q → Calls Tryz.prog 40 #[.pointer (some ⟨q, 0, none⟩), agE e] W fun r w' => r = .returned (.int .i64 ((doB (bkTo l k) e).2 : Int)) ∧ Both w w' x q q (bkTo l (k + 1)) ∧ EntO w' bq (off + k * 14) e) := fun W hb h1 h2 h3 =>
    (refDo_any W q q (bkTo l k) e h2 hze (bkTo_ok l k).wf).mono fun r w' ⟨r1, r2, r3⟩ => by
     have hbw : Below w.heap.size w w' := hb.trans (r3.below.mono h3)
     obtain ⟨bq', off', e1, e2⟩ := HR.out w' k e he hbw
     cases e1
     exact ⟨r1, ⟨hbw, h1.turn r3, by rw [bkTo_succ he]; exact r2, h3⟩, e2⟩
   have HE : Hid (∀ W, Below w.heap.size w W → EntO W bq (off + k * 14) e) := fun W hb => by
    obtain ⟨bq', off', e1, e2⟩ := HR.out W k e he hb
    cases e1
    exact e2
   have HD1 : Hid (Calls Tryz.prog 13 #[.pointer (some ⟨x.p, 0, none⟩), agE e] wr.drew fun r w' => r = .returned (errP s (doB (bkTo l k) e).2) ∧ Below w.heap.size w w' ∧ IsBk w' w.heap.size x (bkTo l (k + 1)) ∧ RefB w' q q (bkTo l k)) := hD.mono fun r w' ⟨r1, r2, r3⟩ => ⟨r1, hBd.below.trans (r3.below hBd.below.size (fun k hk => (hBd.prog.low k hk).1)), by rw [bkTo_succ he]; exact r2, hBd.ref.off hBd.prog r3⟩
   have HCd : Hid (∀ W, Below w.heap.size w W → Calls Tryz.prog 39 #[errP s (doB (bkTo l k) e).2, .int .i64 ((doB (bkTo l k) e).2 : Int)] W fun r w' => r = .returned (.bool true) ∧ Below W.heap.size W w') := fun W hb => by
    have := codedP_any2 s (doB (bkTo l k) e).2 (doB_le _ _) ((doB (bkTo l k) e).2 : Int) W (HS.out W hb).1 (HS.out W hb).2
    simpa using this
   have Hq : Hid (w.heap.size ≤ q) := hBo.base
   generalize (doB (bkTo l k) e).2 = C at *
   obtain ⟨c0, c1, c2, c3, c4, c5, c6, c7, c8, c9, c10, c11, c12, c13⟩ := hE
   clear hD hze hkm hBo hBd he
   obtain ⟨ak, ⟨agc, agp⟩, ⟨ali, alc, alu, alk⟩, ⟨afz, afr, afb⟩, ⟨atz, atr, atb⟩, an⟩ := e
   unfold agE at *
   simp only at c0 c1 c2 c3 c4 c5 c6 c7 c8 c9 c10 c11 c12 c13 HD1 HD2 HE
   go_wp2
   go_region_held3 (fun w' => w'.cell? ⟨bq, off + k * 14, none⟩ = some (.string ak) ∧ w'.cell? ⟨bq, off + k * 14 + 1, none⟩ = some (.string agc) ∧ w'.cell? ⟨bq, off + k * 14 + 2, none⟩ = some (.int .i64 agp) ∧ w'.cell? ⟨bq, off + k * 14 + 3, none⟩ = some (.string ali) ∧ w'.cell? ⟨bq, off + k * 14 + 4, none⟩ = some (.string alc) ∧ w'.cell? ⟨bq, off + k * 14 + 5, none⟩ = some (.int .i64 alu) ∧ w'.cell? ⟨bq, off + k * 14 + 6, none⟩ = some (.int .i64 alk) ∧ w'.cell? ⟨bq, off + k * 14 + 7, none⟩ = some (.string afz) ∧ w'.cell? ⟨bq, off + k * 14 + 8, none⟩ = some (.int .i64 afr) ∧ w'.cell? ⟨bq, off + k * 14 + 9, none⟩ = some (.int .i64 afb) ∧ w'.cell? ⟨bq, off + k * 14 + 10, none⟩ = some (.string atz) ∧ w'.cell? ⟨bq, off + k * 14 + 11, none⟩ = some (.int .i64 atr) ∧ w'.cell? ⟨bq, off + k * 14 + 12, none⟩ = some (.int .i64 atb) ∧ w'.cell? ⟨bq, off + k * 14 + 13, none⟩ = some (.int .i64 an)) (go_keep) (first | (go_at_call 13; refine HD1.out.mono ?_; rintro r w3 ⟨rfl, hb3, hi3, hr3⟩; obtain ⟨d0, d1, d2, d3, d4, d5, d6, d7, d8, d9, d10, d11, d12, d13⟩ := HE.out _ hb3; (try simp only at d0 d1 d2 d3 d4 d5 d6 d7 d8 d9 d10 d11 d12 d13); have Hb3 : Hid (Below _ _ _) := hb3; have Hi3 : Hid (IsBk _ _ _ _) := hi3; have Hr3 : Hid (RefB _ _ _ _) := hr3; clear hb3 hi3 hr3) | (go_at_call 40; refine (HD2.out _ Hb3.out Hi3.out Hr3.out Hq.out).mono ?_; rintro r w4 ⟨rfl, hB4, hE4⟩; obtain ⟨f0, f1, f2, f3, f4, f5, f6, f7, f8, f9, f10, f11, f12, f13⟩ := hE4; (try simp only at f0 f1 f2 f3 f4 f5 f6 f7 f8 f9 f10 f11 f12 f13); have HB4 : Hid (Both _ _ _ _ _ _) := hB4; clear hB4) | (go_at_call 39; refine (HCd.out _ HB4.out.below).mono ?_; rintro r w5 ⟨rfl, hb5⟩; have hB5 := HB4.out.later hb5; obtain ⟨g0, g1, g2, g3, g4, g5, g6, g7, g8, g9, g10, g11, g12, g13⟩ := HE.out _ hB5.below; (try simp only at g0 g1 g2 g3 g4 g5 g6 g7 g8 g9 g10 g11 g12 g13); have HB5 : Hid (Both _ _ _ _ _ _) := hB5; clear hB5 hb5))
   go_wp2
   go_roundw
   case rel => exact ⟨k + 1, by omega, by go_num, HB5.out⟩
   case measure => simp [RowKit.intOf]; omega
  ·have hkn : k = ln := by omega
   subst hkn
   go_wp2
   exact bodyPost_ret (v := .tuple #[.pointer (some ⟨x.p, 0, none⟩), .pointer (some ⟨q, 0, none⟩), .bool true]) (by simp [results, Tryz.results11, go_sem]) rfl ⟨x, q, q, rfl, HBk.out⟩
end Go.Proofs.YteomomeigbfeoaaGreatDoor
