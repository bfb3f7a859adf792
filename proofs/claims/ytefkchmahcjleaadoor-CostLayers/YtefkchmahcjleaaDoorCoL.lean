/-
  The law CostKeeps answers true of any flows and numbers in every memory in which the errors and strconv's table are laid; nothing old is turned.
-/
import Derived.Test.YtefkchmahcjleaaDoorCoK
namespace Go.Proofs.YtefkchmahcjleaaDoor
open Go.RowKit Go.Lib

theorem wrap_in (a b : Int) : IntKind.i64.wrap (IntKind.i64.wrap a + b) = IntKind.i64.wrap (a + b) := by
  rw [IntKind.wrap_i64, IntKind.wrap_i64, IntKind.wrap_i64]; omega
theorem wrap_bound (a : Int) : -9223372036854775808 ≤ IntKind.i64.wrap a ∧ IntKind.i64.wrap a ≤ 9223372036854775807 := by
  rw [IntKind.wrap_i64]; omega
theorem wrap64_is (n : Int) : wrap64 n = IntKind.i64.wrap n := by rw [IntKind.wrap_i64, wrap64]
/-- Flows in a row. -/
def RowF (w : World) (b off : Nat) (l : List Ly) : Prop := ∀ i x, l[i]? = some x → w.cell? ⟨b, off + i * 2, none⟩ = some (.int .i64 x.1) ∧ w.cell? ⟨b, off + i * 2 + 1, none⟩ = some (.int .i64 x.2)
theorem RowF.below {w w' : World} {b off : Nat} {l : List Ly} (h : RowF w b off l) (hb : Below w.heap.size w w') : RowF w' b off l := fun i x hi => by
  obtain ⟨h1, h2⟩ := h i x hi
  exact ⟨(hb.cell (p := ⟨b, off + i * 2, none⟩) (cell_lt h1)).trans h1, (hb.cell (p := ⟨b, off + i * 2 + 1, none⟩) (cell_lt h2)).trans h2⟩
/-- What a flow leaves: the layers, what came, what went. -/
abbrev St := List Ly × Int × Int
def flowS (st : St) (x : Ly) : St := if 0 ≤ x.2 then (inL st.1 x.1 x.2, (if inE st.1 x.1 x.2 = 0 then st.2.1 + x.1 * x.2 else st.2.1), st.2.2) else (outL st.1 x.1, st.2.1, st.2.2 + outN st.1 x.1)
theorem flow_ok {st : St} (h : LyOk st.1) (he : st.2.1 = st.2.2 + worthY st.1) (x : Ly) : LyOk (flowS st x).1 ∧ (flowS st x).2.1 = (flowS st x).2.2 + worthY (flowS st x).1 ∧ (flowS st x).1.length ≤ st.1.length + 1 := by
  unfold flowS
  by_cases hc : 0 ≤ x.2
  · rw [if_pos hc]
    refine ⟨h.in_ _ _, ?_, inL_len _ _ _⟩
    show (if inE st.1 x.1 x.2 = 0 then _ else _) = st.2.2 + worthY (inL st.1 x.1 x.2)
    unfold inL
    by_cases h0 : inE st.1 x.1 x.2 = 0
    · rw [if_pos h0, if_pos h0, (addL_has _ _ _).2.1]; omega
    · rw [if_neg h0, if_neg h0]; exact he
  · rw [if_neg hc]
    refine ⟨h.out _, ?_, Nat.le_succ_of_le (outL_len _ _)⟩
    show st.2.1 = st.2.2 + outN st.1 x.1 + worthY (outL st.1 x.1)
    unfold outN outL
    by_cases h0 : outE st.1 x.1 = 0
    · rw [if_pos h0, if_pos h0]
      have := out_worth (n := x.1) h.pos (by have := (outE_zero h0).1; omega)
      omega
    · rw [if_neg h0, if_neg h0]; omega
def flows (l : List Ly) : St := l.foldl flowS ([], 0, 0)
theorem flows_succ {l : List Ly} {k : Nat} {x : Ly} (h : l[k]? = some x) : flows (l.take (k + 1)) = flowS (flows (l.take k)) x := by
  unfold flows
  rw [List.take_add_one, h, List.foldl_append]; rfl
theorem flows_ok (l : List Ly) : ∀ k, LyOk (flows (l.take k)).1 ∧ (flows (l.take k)).2.1 = (flows (l.take k)).2.2 + worthY (flows (l.take k)).1 ∧ (flows (l.take k)).1.length ≤ k
  | 0 => ⟨LyOk.nil, rfl, Nat.le_refl _⟩
  | k + 1 => by
    obtain ⟨h1, h2, h3⟩ := flows_ok l k
    cases hx : l[k]? with
    | none =>
      have e : l.take (k + 1) = l.take k := by rw [List.take_add_one, hx]; simp
      rw [e]
      exact ⟨h1, h2, by omega⟩
    | some x =>
      rw [flows_succ hx]
      obtain ⟨g1, g2, g3⟩ := flow_ok h1 h2 x
      exact ⟨g1, g2, by omega⟩
/-- What stands at the law's loop. -/
structure Kp (w : World) (s : Nat → Addr) (px py : Nat) (l : List Ly) (k : Nat) (W : World) : Prop where
  two : Ly2 w px py W (flows (l.take k)).1 (flows (l.take k)).1
  cs : Cs W s
  pow : Pow W
set_option maxRecDepth 100000 in
set_option maxHeartbeats 8000000 in
theorem costKeeps_in (pp : Option Addr) (l : List Ly) (cap : Nat) (a b : Int) (w : World) (s : Nat → Addr) (hs : Cs w s) (hp : Pow w) (hr : l = [] ∨ ∃ bq off, pp = some ⟨bq, off, none⟩ ∧ RowF w bq off l) (h60 : l.length ≤ 60) (a1 : 1 ≤ a) (a2 : a ≤ 549755813888) (b1 : 1 ≤ b) (b2 : b ≤ 549755813888) :
    Calls Tryd.prog 3 #[.slice pp l.length cap, .int .i64 a, .int .i64 b] w fun r w' => r = .returned (.bool true) ∧ Below w.heap.size w w' := by
  have HCh : Hid (Calls Tryd.prog 5 #[] w _) := cheap_any w s hs hp
  have HN : Hid (∀ W, Below w.heap.size w W → Calls Tryd.prog 6 #[] W fun e w' => ∃ q, e = .returned (ptrK q) ∧ Ly1 w q w' []) := fun W hb => (Ly1.new_ W).mono fun e w' ⟨q, h1, h2⟩ => ⟨q, h1, ⟨h2.ex.imp fun ks h => ⟨⟨h.r.top, h.r.lnk, h.r.nd, fun k hk => Nat.le_trans hb.size (h.r.lo k hk)⟩, h.ok⟩, hb.trans (h2.below.mono hb.size)⟩⟩
  have HO : Hid (∀ W, Below w.heap.size w W → Cs W s ∧ Pow W) := fun W hb => ⟨hs.below hb, hp.below hb⟩
  have HR : Hid (∀ W, Below w.heap.size w W → ∀ i x, l[i]? = some x → ∃ bq off, pp = some ⟨bq, off, none⟩ ∧ W.cell? ⟨bq, off + i * 2, none⟩ = some (.int .i64 x.1) ∧ W.cell? ⟨bq, off + i * 2 + 1, none⟩ = some (.int .i64 x.2)) := fun W hb i x hi => by
    rcases hr with rfl | ⟨bq, off, h1, h2⟩
    · simp at hi
    · obtain ⟨h3, h4⟩ := h2 i x hi
      exact ⟨bq, off, h1, (hb.cell (p := ⟨bq, off + i * 2, none⟩) (cell_lt h3)).trans h3, (hb.cell (p := ⟨bq, off + i * 2 + 1, none⟩) (cell_lt h4)).trans h4⟩
  have HF : Hid (∀ k, LyOk (flows (l.take k)).1 ∧ (flows (l.take k)).2.1 = (flows (l.take k)).2.2 + worthY (flows (l.take k)).1 ∧ (flows (l.take k)).1.length ≤ k) := flows_ok l
  obtain ⟨ln, hln⟩ : ∃ ln, ln = l.length := ⟨_, rfl⟩
  have HLn : Hid (ln = l.length) := hln
  rw [← hln] at h60 ⊢
  clear hs hp hr hln
  go_enter Tryd.func3, Tryd.ntmps3
  go_wp2_with (first
    | (go_at_call 5; refine HCh.out.mono ?_; rintro e w1 ⟨rfl, hb1⟩; have HB1 : Hid (Below w.heap.size w w1) := hb1; have HN1 : Hid (Calls Tryd.prog 6 #[] w1 _) := HN.out w1 hb1; clear hb1)
    | (go_at_call 6; refine HN1.out.mono ?_; clear HN1; rintro e w2 ⟨px, rfl, h2⟩; have HN2 : Hid (Calls Tryd.prog 6 #[] w2 _) := h2.two; clear h2)
    | (go_at_call 6; refine HN2.out.mono ?_; clear HN2; rintro e w3 ⟨py, rfl, h3⟩; have HK3 : Hid (Kp w s px py l 0 w3) := ⟨h3, (HO.out w3 h3.below).1, (HO.out w3 h3.below).2⟩; clear h3))
  go_loopw [10, 11, 12] (fun vc vw vi wr => ∃ k : Nat, k ≤ ln ∧ vi = .int .i64 k ∧ vc = .int .i64 (IntKind.i64.wrap (flows (l.take k)).2.1) ∧ vw = .int .i64 (IntKind.i64.wrap (flows (l.take k)).2.2) ∧ Kp w s px py l k wr) (fun _ _ vi _ => ln - (RowKit.intOf vi).toNat)
  case atStart => exact ⟨0, Nat.zero_le _, rfl, rfl, rfl, HK3.out⟩
  case round =>
    obtain ⟨k, hk, rfl, rfl, rfl, hkp⟩ := hrel
    have HK : Hid (Kp w s px py l k wr) := hkp
    by_cases hlt : k < ln
    · obtain ⟨x, hx⟩ : ∃ x, l[k]? = some x := ⟨_, List.getElem?_eq_getElem (by rw [← HLn.out]; exact hlt)⟩
      obtain ⟨bq, off, rfl, c0, c1⟩ := HR.out wr hkp.two.below k x hx
      have HE : Hid (flows (l.take (k + 1)) = flowS (flows (l.take k)) x) := flows_succ hx
      obtain ⟨xn, xc⟩ := x
      simp only at c0 c1
      clear hkp hx
      generalize hst : flows (l.take k) = st at *
      obtain ⟨m, cm, wt⟩ := st
      have HKm : Hid (Ly2 w px py wr m m) := by
        have := HK.out.two
        rw [hst] at this
        exact this
      have hfk := HF.out k
      rw [hst] at hfk
      have HM : Hid (LyOk m) := hfk.1
      have HS : Hid (∀ W mx my, Ly2 w px py W mx my → Cs W s) := fun W mx my h => (HO.out W h.below).1
      have HRel : Hid (∀ W, Ly2 w px py W (flowS (m, cm, wt) (xn, xc)).1 (flowS (m, cm, wt) (xn, xc)).1 → Kp w s px py l (k + 1) W) := fun W h => ⟨by rw [HE.out]; exact h, (HO.out W h.below).1, (HO.out W h.below).2⟩
      clear hst hfk HK HF
      by_cases hc : 0 ≤ xc
      · have e1 : flowS (m, cm, wt) (xn, xc) = (inL m xn xc, (if inE m xn xc = 0 then cm + xn * xc else cm), wt) := by unfold flowS; rw [if_pos hc]
        have H1 : Hid (∀ W, Ly2 w px py W m m → Calls Tryd.prog 7 #[ptrK px, .int .i64 xn, .int .i64 xc] W fun e w' => e = .returned (errP s (inE m xn xc)) ∧ Ly2 w px py w' (inL m xn xc) m) := fun W h => h.inX (HS.out W _ _ h) xn xc
        have H2 : Hid (∀ W, Ly2 w px py W (inL m xn xc) m → Calls Tryd.prog 7 #[ptrK py, .int .i64 xn, .int .i64 xc] W fun e w' => e = .returned (errP s (inE m xn xc)) ∧ Ly2 w px py w' (inL m xn xc) (inL m xn xc)) := fun W h => (h.symm.inX (HS.out W _ _ h) xn xc).mono fun e w' ⟨q1, q2⟩ => ⟨q1, q2.symm⟩
        by_cases h0 : inE m xn xc = 0
        · obtain ⟨n1, n2, n3, n4, _⟩ := inE_zero h0
          obtain ⟨b3, b4⟩ := cost_bound (n := xn) (by omega) n3 n4
          have b5 : xn * xc ≤ 1152921504606846976 := by omega
          rw [h0, errP_zero] at H1 H2
          rw [if_pos h0] at e1
          rw [e1] at HE HRel
          obtain ⟨wb1, wb2⟩ := wrap_bound cm
          have HWr : Hid (IntKind.i64.wrap (IntKind.i64.wrap cm + xn * xc) = IntKind.i64.wrap (cm + xn * xc)) := wrap_in cm (xn * xc)
          simp only
          generalize hcw : IntKind.i64.wrap cm = cw at *
          generalize hww : IntKind.i64.wrap wt = ww at *
          have HCw : Hid (IntKind.i64.wrap cm = cw ∧ IntKind.i64.wrap wt = ww) := ⟨hcw, hww⟩
          clear hcw hww
          generalize inL m xn xc = m2 at *
          clear h0 e1 b4 HM
          go_wp2_with (first
            | (go_at_call_of 7 (ptrK px); refine (H1.out _ HKm.out).mono ?_; rintro e w4 ⟨rfl, h4⟩; have HL4 : Hid (Ly2 w px py w4 m2 m) := h4; clear h4)
            | (go_at_call_of 7 (ptrK py); refine (H2.out _ HL4.out).mono ?_; rintro e w5 ⟨rfl, h5⟩; have HL5 : Hid (Ly2 w px py w5 m2 m2) := h5; clear h5))
          go_quiet (fail)
          have HL6 : Hid (Ly2 w px py (w5.drewN nq) m2 m2) := HL5.out.on (below_drewN (Below.refl _ _) nq)
          generalize w5.drewN nq = w6 at *
          go_wp2
          go_roundw
          case rel => exact ⟨k + 1, by omega, by go_num, by rw [HE.out]; show _ = Value.int .i64 (IntKind.i64.wrap (cm + xn * xc)); rw [← HWr.out, wrap64_is], by rw [HE.out]; show _ = Value.int .i64 (IntKind.i64.wrap wt); rw [HCw.out.2], HRel.out _ HL6.out⟩
          case measure => simp [RowKit.intOf]; omega
        · have h2 : inE m xn xc = 2 := (inE_cases m xn xc).resolve_left h0
          have e2 : inL m xn xc = m := by unfold inL; rw [if_neg h0]
          have e3 : errP s 2 = err (s 1) := rfl
          rw [h2, e3, e2] at H1 H2
          rw [if_neg h0, e2] at e1
          rw [e1] at HE HRel
          generalize s 1 = ad at *
          simp only
          generalize hcw : IntKind.i64.wrap cm = cw at *
          generalize hww : IntKind.i64.wrap wt = ww at *
          have HCw : Hid (IntKind.i64.wrap cm = cw ∧ IntKind.i64.wrap wt = ww) := ⟨hcw, hww⟩
          clear hcw hww
          clear h0 e1 e2 e3 h2 HM
          go_wp2_with (first
            | (go_at_call_of 7 (ptrK px); refine (H1.out _ HKm.out).mono ?_; rintro e w4 ⟨rfl, h4⟩; have HL4 : Hid (Ly2 w px py w4 m m) := h4; clear h4)
            | (go_at_call_of 7 (ptrK py); refine (H2.out _ HL4.out).mono ?_; rintro e w5 ⟨rfl, h5⟩; have HL5 : Hid (Ly2 w px py w5 m m) := h5; clear h5))
          go_quiet (fail)
          have HL6 : Hid (Ly2 w px py (w5.drewN nq) m m) := HL5.out.on (below_drewN (Below.refl _ _) nq)
          generalize w5.drewN nq = w6 at *
          go_wp2
          go_roundw
          case rel => exact ⟨k + 1, by omega, by go_num, by rw [HE.out]; show _ = Value.int .i64 (IntKind.i64.wrap cm); rw [HCw.out.1], by rw [HE.out]; show _ = Value.int .i64 (IntKind.i64.wrap wt); rw [HCw.out.2], HRel.out _ HL6.out⟩
          case measure => simp [RowKit.intOf]; omega
      · have e1 : flowS (m, cm, wt) (xn, xc) = (outL m xn, cm, wt + outN m xn) := by unfold flowS; rw [if_neg hc]
        have H1 : Hid (∀ W, Ly2 w px py W m m → Calls Tryd.prog 8 #[ptrK px, .int .i64 xn] W fun e w' => e = .returned (.tuple #[.int .i64 (outN m xn), errP s (outE m xn)]) ∧ Ly2 w px py w' (outL m xn) m) := fun W h => h.outX (HS.out W _ _ h) xn
        have H2 : Hid (∀ W, Ly2 w px py W (outL m xn) m → Calls Tryd.prog 8 #[ptrK py, .int .i64 xn] W fun e w' => e = .returned (.tuple #[.int .i64 (outN m xn), errP s (outE m xn)]) ∧ Ly2 w px py w' (outL m xn) (outL m xn)) := fun W h => (h.symm.outX (HS.out W _ _ h) xn).mono fun e w' ⟨q1, q2⟩ => ⟨q1, q2.symm⟩
        rw [e1] at HE HRel
        have HWr : Hid (IntKind.i64.wrap (IntKind.i64.wrap wt + outN m xn) = IntKind.i64.wrap (wt + outN m xn)) := wrap_in wt (outN m xn)
        simp only
        generalize hcw : IntKind.i64.wrap cm = cw at *
        generalize hww : IntKind.i64.wrap wt = ww at *
        generalize outL m xn = m2 at *
        generalize outN m xn = zn at *
        generalize outE m xn = ze at *
        clear e1 HM
        have hcs : errP s ze = .nilIface ∨ ∃ ad, errP s ze = err ad := by
          rcases ze with _ | z
          · exact Or.inl rfl
          · exact Or.inr ⟨_, errP_pos s (by omega)⟩
        have HCw : Hid (IntKind.i64.wrap cm = cw) := hcw
        clear hww hcw
        rcases hcs with h0 | ⟨ad, h0⟩
        all_goals
          rw [h0] at H1 H2
          clear h0
          go_wp2_with (first
            | (go_at_call_of 8 (ptrK px); refine (H1.out _ HKm.out).mono ?_; rintro e w4 ⟨rfl, h4⟩; have HL4 : Hid (Ly2 w px py w4 m2 m) := h4; clear h4)
            | (go_at_call_of 8 (ptrK py); refine (H2.out _ HL4.out).mono ?_; rintro e w5 ⟨rfl, h5⟩; have HL5 : Hid (Ly2 w px py w5 m2 m2) := h5; clear h5))
          go_quiet (fail)
          have HL6 : Hid (Ly2 w px py (w5.drewN nq) m2 m2) := HL5.out.on (below_drewN (Below.refl _ _) nq)
          generalize w5.drewN nq = w6 at *
          go_wp2
          go_roundw
          case rel => exact ⟨k + 1, by omega, by go_num, by rw [HE.out]; show _ = Value.int .i64 (IntKind.i64.wrap cm); rw [HCw.out], by rw [HE.out]; show _ = Value.int .i64 (IntKind.i64.wrap (wt + zn)); rw [← HWr.out, wrap64_is], HRel.out _ HL6.out⟩
          case measure => simp [RowKit.intOf]; omega
    · have hkn : k = ln := by omega
      have e : l.take k = l := List.take_of_length_le (by rw [← HLn.out]; omega)
      obtain ⟨f1, f2, f3⟩ := HF.out k
      have HKm : Hid (Ly2 w px py wr (flows (l.take k)).1 (flows (l.take k)).1) := hkp.two
      rw [f2]
      clear hkp HK HR HF
      generalize (flows (l.take k)).1 = m at *
      generalize (flows (l.take k)).2.2 = wt at *
      have hm60 : m.length ≤ 60 := by omega
      have HS : Hid (∀ W mx my, Ly2 w px py W mx my → Cs W s ∧ Pow W) := fun W mx my h => HO.out W h.below
      have hwm := worth_most f1
      have HWo : Hid (∀ W, Ly2 w px py W m m → Calls Tryd.prog 9 #[ptrK px] W fun e w' => e = .returned (.int .i64 (worthY m)) ∧ Below W.heap.size W w') := fun W h => h.x.worth_
      have H1 : Hid (∀ W, Ly2 w px py W m m → Calls Tryd.prog 8 #[ptrK px, .int .i64 (a + b)] W fun e w' => e = .returned (.tuple #[.int .i64 (outN m (a + b)), errP s (outE m (a + b))]) ∧ Ly2 w px py w' (outL m (a + b)) m) := fun W h => h.outX (HS.out W _ _ h).1 (a + b)
      have HWr : Hid (wrap64 (IntKind.i64.wrap wt + worthY m) = IntKind.i64.wrap (wt + worthY m)) := by
        show _ = _
        rw [wrap64_is, wrap_in]
      obtain ⟨wb1, wb2⟩ := wrap_bound wt
      generalize IntKind.i64.wrap wt = ww at *
      generalize IntKind.i64.wrap (wt + worthY m) = cw at *
      by_cases h0 : outE m (a + b) = 0
      · obtain ⟨z1, z2, z3⟩ := outE_zero h0
        have g1 : outE m a = 0 := outE_of a1 (by omega) (by omega)
        have g2 : outE (restY m a) b = 0 := outE_of b1 (by omega) (by rw [restY_has f1.pos (by omega) (by omega)]; omega)
        have l0 : outL m (a + b) = restY m (a + b) := by unfold outL; rw [if_pos h0]
        have l1 : outL m a = restY m a := by unfold outL; rw [if_pos g1]
        obtain ⟨t1, t2⟩ := out_two f1.pos (show 0 ≤ a by omega) (show 0 ≤ b by omega)
        have l2 : outL (restY m a) b = restY m (a + b) := by unfold outL; rw [if_pos g2]; exact t2
        have n0 : outN m (a + b) = outS m (a + b) := by unfold outN; rw [if_pos h0]
        have n1 : outN m a = outS m a := by unfold outN; rw [if_pos g1]
        have n2 : outN (restY m a) b = outS (restY m a) b := by unfold outN; rw [if_pos g2]
        have H2 : Hid (∀ W, Ly2 w px py W (restY m (a + b)) m → Calls Tryd.prog 8 #[ptrK py, .int .i64 a] W fun e w' => e = .returned (.tuple #[.int .i64 (outS m a), .nilIface]) ∧ Ly2 w px py w' (restY m (a + b)) (restY m a)) := fun W h => (h.symm.outX (HS.out W _ _ h).1 a).mono fun e w' ⟨q1, q2⟩ => by
          rw [g1, n1] at q1
          rw [l1] at q2
          exact ⟨q1, q2.symm⟩
        have H3 : Hid (∀ W, Ly2 w px py W (restY m (a + b)) (restY m a) → Calls Tryd.prog 8 #[ptrK py, .int .i64 b] W fun e w' => e = .returned (.tuple #[.int .i64 (outS (restY m a) b), .nilIface]) ∧ Ly2 w px py w' (restY m (a + b)) (restY m (a + b))) := fun W h => (h.symm.outX (HS.out W _ _ h).1 b).mono fun e w' ⟨q1, q2⟩ => by
          rw [g2, n2] at q1
          rw [l2] at q2
          exact ⟨q1, q2.symm⟩
        have hlr : (restY m (a + b)).length ≤ 1000 := by have := restY_len m (a + b); omega
        have H4 : Hid (∀ W, Ly2 w px py W (restY m (a + b)) (restY m (a + b)) → Calls Tryd.prog 10 #[ptrK px] W fun e w' => e = .returned (.string ⟨(textY (restY m (a + b))).toArray⟩) ∧ Below W.heap.size W w') := fun W h => h.x.text_ (HS.out W _ _ h).2 hlr
        have H5 : Hid (∀ W, Ly2 w px py W (restY m (a + b)) (restY m (a + b)) → Calls Tryd.prog 10 #[ptrK py] W fun e w' => e = .returned (.string ⟨(textY (restY m (a + b))).toArray⟩) ∧ Below W.heap.size W w') := fun W h => h.symm.x.text_ (HS.out W _ _ h).2 hlr
        rw [h0, errP_zero, n0, l0] at H1
        obtain ⟨y1, y2⟩ := outS_bound f1.pos (show 0 ≤ a by omega)
        obtain ⟨y3, y4⟩ := outS_bound (restY_pos f1.pos (show 0 ≤ a by omega)) (show 0 ≤ b by omega)
        obtain ⟨y5, y6⟩ := outS_bound f1.pos (show 0 ≤ a + b by omega)
        have y7 : outS m (a + b) ≤ 1152921504606846976 := by omega
        generalize restY m (a + b) = m2 at *
        generalize outS (restY m a) b = vb at *
        generalize outS m a = va at *
        generalize outS m (a + b) = vab at *
        generalize restY m a = m1 at *
        generalize (⟨(textY m2).toArray⟩ : ByteArray) = tx at *
        generalize worthY m = wo at *
        have hse := same_eq tx tx
        simp only [decide_true] at hse
        clear h0 g1 g2 l0 l1 l2 n0 n1 n2 t2 f1 f2 f3 y2 y4 y6 z2 z3 hlr
        go_wp2_with (first
          | (go_at_call 9; refine (HWo.out _ HKm.out).mono ?_; rintro e w4 ⟨rfl, hb4⟩; have HL4 : Hid (Ly2 w px py w4 m m) := HKm.out.on hb4; have HWz := HWr.out; clear hb4)
          | (go_at_call_of 8 (ptrK px); refine (H1.out _ HL4.out).mono ?_; rintro e w5 ⟨rfl, h5⟩; have HL5 : Hid (Ly2 w px py w5 m2 m) := h5; clear h5)
          | (go_at_call 8; refine (H2.out _ HL5.out).mono ?_; clear H2; rintro e w6 ⟨rfl, h6⟩; have HL6 : Hid (Ly2 w px py w6 m2 m1) := h6; clear h6)
          | (go_at_call 8; refine (H3.out _ HL6.out).mono ?_; clear H3; rintro e w7 ⟨rfl, h7⟩; have HL7 : Hid (Ly2 w px py w7 m2 m2) := h7; clear h7)
          | (go_at_call_of 10 (ptrK px); refine (H4.out _ HL7.out).mono ?_; rintro e w8 ⟨rfl, h8⟩; have HL8 : Hid (Ly2 w px py w8 m2 m2) := HL7.out.on h8; clear h8)
          | (go_at_call_of 10 (ptrK py); refine (H5.out _ HL8.out).mono ?_; rintro e w9 ⟨rfl, h9⟩; have HL9 : Hid (Ly2 w px py w9 m2 m2) := HL8.out.on h9; clear h9))
        go_ret
        exact ⟨rfl, HL9.out.below⟩
      · have e0 : outN m (a + b) = 0 := by unfold outN; rw [if_neg h0]
        rw [errP_pos s h0, e0] at H1
        generalize s (outE m (a + b) - 1) = ad at *
        generalize outL m (a + b) = m2 at *
        generalize worthY m = wo at *
        clear h0 e0 f1 f2 f3
        go_wp2_with (first
          | (go_at_call 9; refine (HWo.out _ HKm.out).mono ?_; rintro e w4 ⟨rfl, hb4⟩; have HL4 : Hid (Ly2 w px py w4 m m) := HKm.out.on hb4; have HWz := HWr.out; clear hb4)
          | (go_at_call 8; refine (H1.out _ HL4.out).mono ?_; rintro e w5 ⟨rfl, h5⟩; have HL5 : Hid (Ly2 w px py w5 m2 m) := h5; clear h5))
        go_ret
        exact ⟨rfl, HL5.out.below⟩
end Go.Proofs.YtefkchmahcjleaaDoor
