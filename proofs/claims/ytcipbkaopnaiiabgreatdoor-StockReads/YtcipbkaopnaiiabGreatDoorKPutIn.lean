/-
  What Put answers and leaves where the place, the lot and the number are well: n pieces more, or ErrFull and no turn.
-/
import Derived.Test.YtcipbkaopnaiiabGreatDoorKPut
namespace Go.Proofs.YtcipbkaopnaiiabGreatDoor
open Go.RowKit Go.Lib Go.Sort
open Go.Maps (Keyed)

theorem keyOk_of {x : Pl} {c : ByteArray} (h0 : placeErr x = 0) (hz : x.1.size ≤ maxLen) (hz' : c.size ≤ maxLen) : KeyOk (x, c) := by
  obtain ⟨_, a1, a2, a3, a4⟩ := okP_bounds ((okP_err x).2 h0)
  obtain ⟨a, r, bb⟩ := x
  simp only at a1 a2 a3 a4
  exact ⟨hz, WalkArith.wf_i64 (show _ ≤ r ∧ r ≤ _ by omega), WalkArith.wf_i64 (show _ ≤ bb ∧ bb ≤ _ by omega), hz'⟩
set_option maxRecDepth 100000 in
set_option maxHeartbeats 4000000 in
theorem put_in (x : Pl) (c : ByteArray) (n : Int) (w : World) (s : Nat → Addr) (p b : Nat) (m : List Ln) (h : IsStock w p b m) (hz : x.1.size ≤ maxLen) (hz' : c.size ≤ maxLen) (hs : Five w s) (h0 : placeErr x = 0) (h1 : isName c.data.toList = true) (h2 : numW n = true) (h3 : ofL m c + n ≤ 1099511627776) :
    Calls Tryz.prog 14 #[.pointer (some ⟨p, 0, none⟩), agP x, .string c, .int .i64 n] w fun e w' => e = .returned (errP s (putE m x c n)) ∧ IsStock w' p b (putL m x c n) ∧ w.grownBy w' (some b) := by
  have hB := boxP_below w x
  have hbx : BoxAt w.heap.size x (boxP w x) := BoxAt.new w x _ _ rfl
  have hC := pcheck_any x _ s hz (hs.two.below hB)
  rw [h0, errP_zero] at hC
  have hN : ∀ w, Calls Tryz.prog 53 #[.string c] w _ := fun w => name_any c w hz'
  rw [h1] at hN
  have hW := fun w => numWell_any n w
  rw [h2] at hW
  have hO := fun w1 (hb : Below w.heap.size w w1) => of_any c w1 p b m (h.all hb)
  obtain ⟨o1, o2⟩ := h.wf.of_bound c
  obtain ⟨n1, n2⟩ := (numW_iff n).1 h2
  have hk : KeyOk (x, c) := keyOk_of h0 hz hz'
  have HE := putE_full (m := m) (n := n) h0 h1 h2 h3
  have hv0 := h.wf.at_nonneg (x, c)
  have hv1 : atL m (x, c) ≤ 1099511627776 := Int.le_trans (h.wf.at_le (x, c)) (h.wf.most _)
  have HF : Hid (∀ w4, Below w.heap.size w w4 → IsStock w4 p b m) := fun w4 hb => h.all hb
  have HV : Hid (∀ w4, Below w.heap.size w w4 → Five w4 s) := fun w4 hb => hs.below hb
  have hpb : Hid (p ≠ b) := h.ne
  have hlb : Hid (b < w.heap.size) := h.lt.2
  have HP := h.wf.put x c n
  have HK : Hid (KeyOk (x, c)) := hk
  have HA : Hid (atL m (x, c) + n ≤ 9223372036854775807) := by have := h.wf.at_le (x, c); show _ ≤ _; omega
  clear hs hz hz' h0 h1 h hk
  generalize hO' : ofL m c = O at *
  have HO' : Hid (ofL m c = O) := hO'
  clear hO'
  obtain ⟨a, r, bb⟩ := x
  unfold agP boxP at *
  simp only at *
  have HC : Hid (Calls Tryz.prog 52 _ _ _) := hC
  have HB : Hid (Below _ _ _) := hB
  have HE' : Hid (putE m (a, r, bb) c n = _) := HE
  have HP' : Hid (Wf _) := HP
  clear hC hB HE HP
  obtain ⟨v, hv⟩ : ∃ v, v = atL m ((a, r, bb), c) := ⟨_, rfl⟩
  rw [← hv] at hv0 hv1
  have Hv : Hid (v = atL m ((a, r, bb), c)) := hv
  clear hv
  go_enter Tryz.func14, Tryz.ntmps14
  go_wp2_with (first
    | (go_at_call 52; refine HC.out.mono ?_; rintro e w1 ⟨rfl, hb⟩; have hb1 : Below w.heap.size w w1 := HB.out.trans (hb.mono HB.out.size); have hbx1 := hbx.below hb)
    | (go_at_call 53; refine (hN _).mono ?_; rintro e w2 ⟨rfl, rfl⟩)
    | (go_at_call 54; refine (hW _).mono ?_; rintro e w3 ⟨rfl, rfl⟩)
    | (go_at_call 23; refine (hO _ hb1).mono ?_; rintro e w4 ⟨rfl, hb4⟩; obtain ⟨y0, y1, y2⟩ := hbx1.below hb4; simp only at y0 y1 y2; have hb5 : Below w.heap.size w w4 := hb1.trans (hb4.mono hb1.size)))
  have hbS : BoxS w4.heap.size ((a, r, bb), c) (w4.alloc (.cells #[.string a, .int .i64 r, .int .i64 bb, .string c] 104)) := BoxS.new w4 ((a, r, bb), c) _ _ rfl
  have hbW : Below w.heap.size w (w4.alloc (.cells #[.string a, .int .i64 r, .int .i64 bb, .string c] 104)) := hb5.alloc hb5.size _
  have hqb : w4.heap.size ≠ b := fun e => by have := hlb.out; have := hb5.size; omega
  clear y0 y1 y2 hb5 hb4 hb1 hb hbx1 hbx hO hN hW HB HC
  generalize w4.alloc (.cells #[.string a, .int .i64 r, .int .i64 bb, .string c] 104) = W at *
  generalize w4.heap.size = q at *
  have hSt := HF.out W hbW
  have hl : ∀ k, (Instr.lookup 96 (.map (some b)) (.agg #[.string a, .int .i64 r, .int .i64 bb, .string c]) false).run Tryz.prog (W.drewN k) = .ok (.int .i64 v) (W.drewN k) := fun k => by rw [Hv.out]; exact hSt.looks HK.out k
  obtain ⟨ln, hes⟩ : ∃ ln : Nat, ln = m.length := ⟨_, rfl⟩
  have ho : ∀ k, (Builtin.len_ #[96] 3 #[.map (some b)]).run Tryz.prog (W.drewN k) = .ok (.int .i64 ln) (W.drewN k) := fun k => by
    have := (hSt.drew k).map.len Tryz.underlying96 3
    rw [List.length_map, ← hes] at this
    exact this
  have hlen := hSt.wf.len
  have hc := hSt.cell
  have HS : Hid (IsStock W p b m) := hSt
  have HL : Hid (ln = m.length) := hes
  have hg := (HV.out W hbW).full
  have HbW : Hid (Below w.heap.size w W) := hbW
  have hl200 : ln ≤ 200 := by rw [hes]; exact hlen
  obtain ⟨x0, x1, x2, x3⟩ := hbS
  have HBS : Hid (BoxS q ((a, r, bb), c) W) := ⟨x0, x1, x2, x3⟩
  simp only at x0 x1 x2 x3
  clear hSt hbW hlen hes
  by_cases hf : v = 0 ∧ 200 ≤ ln
  · obtain ⟨f1, f2⟩ := hf
    have e1 : (v == 0) = true := by simpa using f1
    have hd : decide (200 ≤ ln) = true := decide_eq_true f2
    have HZ : Hid (putE m (a, r, bb) c n = 8) := by
      show _ = _
      rw [HE'.out, if_pos ⟨by rw [← Hv.out]; exact f1, by rw [← HL.out]; exact f2⟩]
    clear f1
    go_quiet (fail)
    go_wp2
    go_ret
    refine ⟨by rw [HZ.out]; rfl, ?_, grown_trans (Below.grownAll HbW.out _) (grown_drewN _ _ _)⟩
    rw [putL_err (by rw [HZ.out]; decide)]
    exact HS.out.drew _
  · have HZ : Hid (putE m (a, r, bb) c n = 0) := by
      show _ = _
      rw [HE'.out, if_neg]
      rintro ⟨f1, f2⟩
      exact hf ⟨by rw [Hv.out]; exact f1, by rw [HL.out]; exact f2⟩
    have HQ : Hid (∀ k, ∃ w3, w.grownBy w3 (some b) ∧ IsStock w3 p b (putL m (a, r, bb) c n) ∧ ∃ (st : Nat) (w2 : World), (Instr.mapEntry 96 (.map (some b)) (.agg #[.string a, .int .i64 r, .int .i64 bb, .string c])).run Tryz.prog (W.drewN (k + 1)) = .ok (.tuple #[.int .i64 v, .int .i64 st]) w2 ∧ (Instr.lookup 96 (.map (some b)) (.agg #[.string a, .int .i64 r, .int .i64 bb, .string c]) false).run Tryz.prog w2 = .ok (.int .i64 v) w2 ∧ BoxS q ((a, r, bb), c) w2 ∧ w2.cell? ⟨p, 0, none⟩ = some (.map (some b)) ∧
        (Instr.entryStore 96 (.map (some b)) (.int .i64 st) (.int .i64 (v + n))).run Tryz.prog w2 = .ok () w3) := fun k => by
      have hS : IsStock (W.drewN (k + 1)) p b m := ⟨HS.out.cell, HS.out.map, HS.out.wf⟩
      obtain ⟨st, w2, g1, g2, g3, g4⟩ := hS.entry HK.out
      rw [← Hv.out] at g1 g2
      obtain ⟨w3, g5, g6, g7⟩ := g4 (v + n)
      have hne : v + n ≠ 0 := by omega
      refine ⟨w3, grown_trans (grown_trans (Below.grownAll HbW.out _) (grown_drewN _ (k + 1) _)) g7.grown, ⟨(turned_cell (p := ⟨p, 0, none⟩) g7 hpb.out).trans hS.cell, ?_, HP'.out⟩, st, w2, g1, g2, BoxS.of_block (W := W.drewN (k + 1)) (HBS.out.of_block rfl) (turned_block g3 hqb), (turned_cell (p := ⟨p, 0, none⟩) g3 hpb.out).trans hS.cell, g5⟩
      rw [putL_zero HZ.out, ← Hv.out]
      exact g6.perm ((withL_perm hne).symm.map entN)
    have hn9 := HA.out
    rw [← Hv.out] at hn9
    by_cases f1 : v = 0
    · have e1 : (v == 0) = true := by simpa using f1
      have f2 : ln < 200 := Nat.lt_of_not_le fun f2 => hf ⟨f1, f2⟩
      have hd : decide (200 ≤ ln) = false := decide_eq_false (by omega)
      clear hf f1
      go_quiet (fail)
      go_wp2
      obtain ⟨w3, hg3, hS3, st, w2, g1, g2, ⟨z0, z1, z2, z3⟩, g4, g5⟩ := HQ.out nq
      simp only at z0 z1 z2 z3
      go_region
      go_wp2
      go_ret
      exact ⟨by rw [HZ.out]; rfl, hS3, hg3⟩
    · have e1 : (v == 0) = false := by simpa using f1
      clear hf f1
      go_quiet (fail)
      go_wp2
      obtain ⟨w3, hg3, hS3, st, w2, g1, g2, ⟨z0, z1, z2, z3⟩, g4, g5⟩ := HQ.out nq
      simp only at z0 z1 z2 z3
      go_region
      go_wp2
      go_ret
      exact ⟨by rw [HZ.out]; rfl, hS3, hg3⟩
/-- Put. -/
theorem put_any (x : Pl) (c : ByteArray) (n : Int) (w : World) (s : Nat → Addr) (p b : Nat) (m : List Ln) (h : IsStock w p b m) (hz : x.1.size ≤ maxLen) (hz' : c.size ≤ maxLen) (hs : Five w s) :
    Calls Tryz.prog 14 #[.pointer (some ⟨p, 0, none⟩), agP x, .string c, .int .i64 n] w fun e w' => e = .returned (errP s (putE m x c n)) ∧ IsStock w' p b (putL m x c n) ∧ w.grownBy w' (some b) := by
  by_cases h0 : placeErr x = 0
  · cases h1 : isName c.data.toList with
    | false =>
      have e := putE_name (m := m) (n := n) h0 h1
      rw [putL_err (by rw [e]; decide), e]
      exact (put_name x c n w s p hz hz' hs h0 h1).mono fun e w' ⟨he, hb⟩ => ⟨he, h.all hb, Below.grownAll hb _⟩
    | true =>
      cases h2 : numW n with
      | false =>
        have e := putE_num (m := m) (n := n) h0 h1 (Or.inl h2)
        rw [putL_err (by rw [e]; decide), e]
        exact (put_num x c n w s p b m h hz hz' hs h0 h1 (Or.inl h2)).mono fun e w' ⟨he, hb⟩ => ⟨he, h.all hb, Below.grownAll hb _⟩
      | true =>
        by_cases h3 : ofL m c + n ≤ 1099511627776
        · exact put_in x c n w s p b m h hz hz' hs h0 h1 h2 h3
        · have h4 : 1099511627776 < ofL m c + n := by omega
          have e := putE_num (m := m) (n := n) h0 h1 (Or.inr h4)
          rw [putL_err (by rw [e]; decide), e]
          exact (put_num x c n w s p b m h hz hz' hs h0 h1 (Or.inr ⟨h2, h4⟩)).mono fun e w' ⟨he, hb⟩ => ⟨he, h.all hb, Below.grownAll hb _⟩
  · have e := putE_place (m := m) (c := c) (n := n) h0
    rw [putL_err (by rw [e]; exact h0), e]
    exact (put_place x c n w s p hz hs h0).mono fun e w' ⟨he, hb⟩ => ⟨he, h.all hb, Below.grownAll hb _⟩
end Go.Proofs.YtcipbkaopnaiiabGreatDoor
