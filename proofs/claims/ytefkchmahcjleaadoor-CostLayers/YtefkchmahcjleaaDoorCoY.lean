/-
  What cost's Out and Worth answer: the eldest pieces go; what all cost together; what is left in memory.
-/
import Derived.Test.YtefkchmahcjleaaDoorCoX
import Derived.BigQuiet
import Derived.Lib.QuietBelow
namespace Go.Proofs.YtefkchmahcjleaaDoor
open Go.RowKit Go.Lib

/-- What Out leaves. -/
def OutL (w : World) (B q : Nat) (ks : List Nat) (m : List Ly) (n : Int) (w' : World) : Prop :=
  ∃ ks', LyAt w' B q ks' (outL m n) ∧ (∀ k ∈ ks', k ∈ ks) ∧ Off (q :: ks) w w'
theorem outL_err {w w' : World} {B q : Nat} {ks : List Nat} {m : List Ly} {n : Int} (h : LyAt w B q ks m) (hE : outE m n ≠ 0) (hb : Below w.heap.size w w') : OutL w B q ks m n w' := by
  refine ⟨ks, ?_, fun k hk => hk, Off.of_below hb⟩
  unfold outL
  rw [if_neg hE]
  exact h.below hb
set_option maxHeartbeats 2000000 in
/-- Out, of a number out of bounds. -/
theorem yout_bound (w : World) (s : Nat → Addr) (q : Nat) (n : Int) (hs : Cs w s) (hx : ¬ (1 ≤ n ∧ n ≤ 1099511627776)) :
    Calls Tryd.prog 8 #[ptrK q, .int .i64 n] w fun e w' => e = .returned (.tuple #[.int .i64 0, err (s 1)]) ∧ Below w.heap.size w w' := by
  have g1 := hs.bound
  have hN := ynum_any n w
  have e1 : (decide (1 ≤ n) && decide (n ≤ 1099511627776)) = false := by
    by_cases h1 : 1 ≤ n
    · have h2 : ¬ n ≤ 1099511627776 := fun h2 => hx ⟨h1, h2⟩
      rw [decide_eq_false h2]; simp
    · rw [decide_eq_false h1]; rfl
  rw [e1] at hN
  have HN : Hid (Calls Tryd.prog 18 _ w _) := hN
  clear hs hN hx e1
  go_enter Tryd.func8, Tryd.ntmps8
  go_wp2_with (go_at_call 18; refine HN.out.mono ?_; rintro e w1 ⟨rfl, hw⟩; have hw' := hw.symm; subst hw')
  go_quiet (fail)
  go_wp2
  go_ret2
  exact ⟨rfl, below_drewN (Below.refl _ _) nq⟩
set_option maxHeartbeats 2000000 in
/-- Out, of more than there are. -/
theorem yout_short (w : World) (s : Nat → Addr) (B q : Nat) (ks : List Nat) (m : List Ly) (n : Int) (h : LyAt w B q ks m) (hs : Cs w s) (h1 : 1 ≤ n) (h2 : n ≤ 1099511627776) (hx : hasY m < n) :
    Calls Tryd.prog 8 #[ptrK q, .int .i64 n] w fun e w' => e = .returned (.tuple #[.int .i64 0, err (s 8)]) ∧ Below w.heap.size w w' := by
  have g1 := hs.short
  have hN := ynum_any n w
  rw [decide_eq_true h1, decide_eq_true h2] at hN
  have HN : Hid (Calls Tryd.prog 18 _ w _) := hN
  have HW : Hid (Calls Tryd.prog 20 _ w _) := ywhole_any q w
  have c2 : w.cell? ⟨q, 2, none⟩ = some (.int .i64 (hasY m)) := cell_blk h.r.top 2
  have hm := h.ok.most
  have hm0 := hasY_nonneg h.ok.pos
  generalize hasY m = H at *
  clear hs hN h
  go_enter Tryd.func8, Tryd.ntmps8
  go_wp2_with (first
    | (go_at_call 18; refine HN.out.mono ?_; rintro e w1 ⟨rfl, hw⟩; have hw' := hw.symm; subst hw')
    | (go_at_call 20; refine HW.out.mono ?_; rintro e w1 ⟨rfl, hw⟩; have hw' := hw.symm; subst hw'))
  go_quiet (fail)
  go_wp2
  go_ret2
  exact ⟨rfl, below_drewN (Below.refl _ _) nq⟩
set_option maxHeartbeats 4000000 in
set_option maxRecDepth 100000 in
/-- Out. -/
theorem yout_fine (w : World) (B q : Nat) (ks : List Nat) (m : List Ly) (n : Int) (h : LyAt w B q ks m) (h1 : 1 ≤ n) (h2 : n ≤ 1099511627776) (hx : n ≤ hasY m) :
    Calls Tryd.prog 8 #[ptrK q, .int .i64 n] w fun e w' => e = .returned (.tuple #[.int .i64 (outS m n), .nilIface]) ∧ OutL w B q ks m n w' := by
  have hE := outE_of h1 h2 hx
  have hN := ynum_any n w
  rw [decide_eq_true h1, decide_eq_true h2] at hN
  have HN : Hid (Calls Tryd.prog 18 _ w _) := hN
  have HW : Hid (Calls Tryd.prog 20 _ w _) := ywhole_any q w
  have hq := h.r.top
  have c2 : w.cell? ⟨q, 2, none⟩ = some (.int .i64 (hasY m)) := cell_blk hq 2
  have f2 := frozen_of_heap hq 2
  have hm := h.ok.most
  have hwm := worth_most h.ok
  obtain ⟨hS0, hS1⟩ := outS_bound (n := n) h.ok.pos (by omega)
  have hS2 : outS m n ≤ 1152921504606846976 := by omega
  obtain ⟨w1, e1, a1, k1, o1, _⟩ := set_blk (c' := #[hdY ks nilP, lastY ks, .int .i64 (hasY m - n)]) hq 2 (.int .i64 (hasY m - n)) rfl
  have hR1 : LyR w1 B q ks m (hasY m - n) := ⟨a1, h.r.lnk.of_blocks fun k hk => k1 k fun e => (List.nodup_cons.1 h.r.nd).1 (e ▸ hk), h.r.nd, h.r.lo⟩
  have hfin : ∀ wr ks', LyR wr B q ks' (restY m n) (hasY m - n) → (∀ j ∈ ks', j ∈ ks) → Off (q :: ks) w1 wr → OutL w B q ks m n wr := fun wr ks' hr hj ho => by
    have e9 : outL m n = restY m n := by unfold outL; rw [if_pos hE]
    refine ⟨ks', ⟨?_, h.ok.out n⟩, hj, (o1.mono (by simp)).trans ho⟩
    rw [e9, restY_has h.ok.pos (by omega) hx]
    exact hr
  have HF : Hid (∀ wr ks', LyR wr B q ks' (restY m n) (hasY m - n) → (∀ j ∈ ks', j ∈ ks) → Off (q :: ks) w1 wr → OutL w B q ks m n wr) := hfin
  have HR1 : Hid (LyR w1 B q ks m (hasY m - n)) := hR1
  have HP : Hid (PosY m ∧ hasY m ≤ 1099511627776) := ⟨h.ok.pos, hm⟩
  obtain ⟨H, hH⟩ : ∃ H, hasY m = H := ⟨_, rfl⟩
  have HH : Hid (hasY m = H) := hH
  rw [hH] at c2 e1 hx hm HR1 HF
  clear hfin hR1 hN h hq a1 k1 o1 hE hwm hH hS1
  go_enter Tryd.func8, Tryd.ntmps8
  go_wp2_with (first
    | (go_at_call 18; refine HN.out.mono ?_; rintro e w1 ⟨rfl, hw⟩; have hw' := hw.symm; subst hw')
    | (go_at_call 20; refine HW.out.mono ?_; rintro e w1 ⟨rfl, hw⟩; have hw' := hw.symm; subst hw'))
  clear HN HW c2 f2 e1
  go_loopw [1, 6, 7] (fun vn vs vp wr => ∃ (r S : Int) (ks' : List Nat) (m' : List Ly), vn = .int .i64 r ∧ vs = .int .i64 S ∧ LyR wr B q ks' m' (H - n) ∧ (∀ j ∈ ks', j ∈ ks) ∧ Off (q :: ks) w1 wr ∧ PosY m' ∧ 0 ≤ r ∧ r ≤ hasY m' ∧ hasY m' ≤ 1099511627776 ∧ 0 ≤ S ∧ S + outS m' r = outS m n ∧ restY m' r = restY m n) (fun vn _ _ _ => (RowKit.intOf vn).toNat)
  case atStart => exact ⟨n, 0, ks, m, rfl, rfl, HR1.out, fun j hj => hj, Off.refl _ _, HP.out.1, by omega, by rw [HH.out]; exact hx, HP.out.2, Int.le_refl _, by omega, rfl⟩
  case round =>
    obtain ⟨r, S, ks', m', rfl, rfl, hr, hj, ho, hp, hr0, hr1, hr2, hs0, hs1, hs2⟩ := hrel
    by_cases hz : 0 < r
    · cases m' with
      | nil => rw [hasY_nil] at hr1; omega
      | cons x m2 =>
        obtain ⟨k, ks2, rfl, hk, _⟩ := hr.lnk.cons
        have c0 : wr.cell? ⟨q, 0, none⟩ = some (ptrK k) := cell_blk hr.top 0
        have d0 : wr.cell? ⟨k, 0, none⟩ = some (.int .i64 x.1) := cell_blk hk 0
        have d1 : wr.cell? ⟨k, 1, none⟩ = some (.int .i64 x.2) := cell_blk hk 1
        obtain ⟨x1, x2, x3⟩ := hp.head
        have hxq : x.1 ≤ 1099511627776 := by
          have := hasY_nonneg hp.tail
          rw [hasY_cons] at hr2
          omega
        obtain ⟨pt, hpt⟩ : ∃ pt, min r x.1 = pt := ⟨_, rfl⟩
        obtain ⟨t1, t2, t3, t4⟩ := out_step hp hpt
        have p1 : 1 ≤ pt := by omega
        have p2 : pt ≤ r := by omega
        have p3 : pt ≤ x.1 := by omega
        obtain ⟨b1, b2⟩ := cost_bound (n := pt) (by omega) x2 x3
        have b3 : pt * x.2 ≤ 1152921504606846976 := by omega
        have HL : Hid (Calls Tryd.prog 21 _ wr _) := yless_any wr B q (k :: ks2) x m2 (H - n) pt hr (by omega) p3 hxq
        obtain ⟨t5, _⟩ := outS_bound (n := r - pt) t3 (by omega)
        have b4 : S + pt * x.2 ≤ 1152921504606846976 := by omega
        have HT : Hid (PosY (lessL x m2 pt) ∧ r - pt ≤ hasY (lessL x m2 pt) ∧ hasY (lessL x m2 pt) ≤ 1099511627776 ∧ S + pt * x.2 + outS (lessL x m2 pt) (r - pt) = outS m n ∧ restY (lessL x m2 pt) (r - pt) = restY m n) := ⟨t3, by omega, by omega, by omega, t2.symm.trans hs2⟩
        have HJ : Hid ((∀ j ∈ k :: ks2, j ∈ ks) ∧ Off (q :: ks) w1 wr) := ⟨hj, ho⟩
        have hr5 : r ≤ 1099511627776 := by omega
        clear hr hk hp t1 t2 t3 t4 t5 hs1 hs2 hj ho b2 hr1 hr2
        generalize lessL x m2 pt = mz at *
        obtain ⟨xa, xb⟩ := x
        simp only at *
        go_wp2_with (first
          | (go_at_call 21; refine HL.out.mono ?_; rintro e w3 ⟨rfl, ks3, hr3, hj3, ho3⟩; have HR3 : Hid (LyR w3 B q ks3 _ (H - n)) := hr3; have HJ3 : Hid (_ ∧ _) := (And.intro hj3 ho3); clear hr3 hj3 ho3))
        go_roundw
        case rel => exact ⟨r - pt, S + pt * xb, ks3, mz, rfl, rfl, HR3.out, fun j hj => HJ.out.1 j (HJ3.out.1 j hj), HJ.out.2.trans (HJ3.out.2.mono fun j hj => by
            rcases List.mem_cons.1 hj with rfl | hj
            · simp
            · exact List.mem_cons_of_mem _ (HJ.out.1 j hj)), HT.out.1, by omega, HT.out.2.1, HT.out.2.2.1, by omega, HT.out.2.2.2.1, HT.out.2.2.2.2⟩
        case measure => simp [RowKit.intOf]; omega
    · have hr0' : r = 0 := by omega
      subst hr0'
      rw [outS_zero hp, Int.add_zero] at hs1
      rw [restY_zero hp] at hs2
      subst hs1 hs2
      have HFin : Hid (OutL w B q ks m n wr) := HF.out wr ks' hr hj ho
      clear hr hj ho hp
      go_wp2
      go_ret2
      exact ⟨rfl, HFin.out⟩
/-- Out. -/
theorem yout_any (w : World) (s : Nat → Addr) (B q : Nat) (ks : List Nat) (m : List Ly) (n : Int) (h : LyAt w B q ks m) (hs : Cs w s) :
    Calls Tryd.prog 8 #[ptrK q, .int .i64 n] w fun e w' => e = .returned (.tuple #[.int .i64 (outN m n), errP s (outE m n)]) ∧ OutL w B q ks m n w' := by
  by_cases hx : 1 ≤ n ∧ n ≤ 1099511627776
  · by_cases h3 : n ≤ hasY m
    · have hE := outE_of hx.1 hx.2 h3
      unfold outN
      rw [hE, errP_zero, if_pos rfl]
      exact yout_fine w B q ks m n h hx.1 hx.2 h3
    · have hE : outE m n = 9 := by unfold outE; rw [if_pos hx, if_neg h3]
      unfold outN
      rw [hE]
      refine (yout_short w s B q ks m n h hs hx.1 hx.2 (by omega)).mono ?_
      rintro e w' ⟨rfl, hb⟩
      exact ⟨rfl, outL_err h (by rw [hE]; decide) hb⟩
  · have hE : outE m n = 2 := by unfold outE; rw [if_neg hx]
    unfold outN
    rw [hE]
    refine (yout_bound w s q n hs hx).mono ?_
    rintro e w' ⟨rfl, hb⟩
    exact ⟨rfl, outL_err h (by rw [hE]; decide) hb⟩
end Go.Proofs.YtefkchmahcjleaaDoor
