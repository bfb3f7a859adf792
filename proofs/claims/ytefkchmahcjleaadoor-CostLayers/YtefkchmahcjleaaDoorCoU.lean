/-
  What the reference's In answers, whatever is handed in.
-/
import Derived.Test.YtefkchmahcjleaaDoorCoS
import Derived.BigRegion
import Derived.Deep.RegionHeld3
namespace Go.Proofs.YtefkchmahcjleaaDoor
open Go.RowKit Go.Lib

set_option maxHeartbeats 8000000 in
set_option maxRecDepth 100000 in
/-- The reference's In, to the last layer. -/
theorem rin_same (w : World) (B q : Nat) (m : List Ly) (x : Ly) (n c : Int) (h : RefY w B q (m ++ [x])) (hok : LyOk (m ++ [x])) (hlen : m.length ≤ 800) (hx : x.2 = c) (h1 : 1 ≤ n) (h2 : n ≤ 1099511627776) (h3 : 0 ≤ c) (h4 : c ≤ 1048576) (h5 : hasY (m ++ [x]) + n ≤ 1099511627776) :
    Calls Tryd.prog 12 #[ptrK q, .int .i64 n, .int .i64 c] w fun e w' => e = .returned (.int .i64 0) ∧ RefY w' B q (m ++ [(x.1 + n, c)]) ∧ RF B w w' := by
  have HH : Hid (Calls Tryd.prog 15 _ w _) := rhas_any w B q (m ++ [x]) h hok (by simp; omega)
  obtain ⟨a, cp, hq, hr, hlt⟩ := h.later
  have hm0 := hasY_nonneg hok.pos
  have hx1 := (hok.pos x (by simp)).1
  have hx2 : x.1 + n ≤ 1099511627776 := by
    have h9 : PosY m := fun y hy => hok.pos y (by simp [hy])
    have := hasY_nonneg h9
    rw [hasY_app, hasY_cons, hasY_nil] at h5
    omega
  obtain ⟨g, rfl, _, _⟩ := (hlt w (Below.refl _ _)).2 m.length x (by simp)
  have HF : Hid (∀ W, Below w.heap.size w W → W.cell? ⟨q, 0, none⟩ = some (.slice (some ⟨g, 0, none⟩) (m ++ [x]).length cp) ∧ W.cell? ⟨g, m.length * 2, none⟩ = some (.int .i64 x.1) ∧ W.cell? ⟨g, m.length * 2 + 1, none⟩ = some (.int .i64 x.2) ∧ W.frozen? ⟨g, m.length * 2, none⟩ = false ∧ ∃ W2, W.setCell ⟨g, m.length * 2, none⟩ (.int .i64 (x.1 + n)) = W2 ∧ W2.cell? ⟨q, 0, none⟩ = some (.slice (some ⟨g, 0, none⟩) (m ++ [x]).length cp) ∧ RefY W2 B q (m ++ [(x.1 + n, x.2)]) ∧ RF B w W2) := fun W hb => by
    obtain ⟨c0, hc⟩ := hlt W hb
    obtain ⟨g', e, h8, h9⟩ := hc m.length x (by simp)
    cases e
    have hrW := hr.below hb
    obtain ⟨cc, hk⟩ := hrW.kind (g := g) rfl
    have hqW := (hb.block q h.lt).trans hq
    have hgq : q ≠ g := fun e => blk_neY hqW hk (by decide) e
    have hq2 := (Below.heap_setCell W ⟨g, m.length * 2, none⟩ (.int .i64 (x.1 + n)) q hgq).trans hqW
    refine ⟨c0, h8, h9, frozen_of_heap hk _, _, rfl, cell_blk hq2 0, ⟨⟨_, hq2, hrW.setLast (x.1 + n)⟩, h.lo⟩, ⟨(hb.mono h.base).setCell (hrW.lt (g := g) rfl).1 _, (OffR.of_below hb).trans (OffR.set (Or.inr ⟨_, hk⟩) _)⟩⟩
  obtain ⟨j, hj⟩ : ∃ j, m.length = j := ⟨_, rfl⟩
  obtain ⟨ln, hln⟩ : ∃ ln, (m ++ [x]).length = ln := ⟨_, rfl⟩
  rw [hj, hln, hx] at HF
  have hlj : ln = j + 1 := by rw [← hln, ← hj]; simp
  have hk : (ln : Int) - 1 = (j : Int) := by omega
  have hw : IntKind.i64.wrap (j : Int) = (j : Int) := by rw [IntKind.wrap_i64]; omega
  have hl9 : ln ≤ 900 := by omega
  have hl0 : j < ln := by omega
  generalize hasY (m ++ [x]) = H at *
  clear h hok hq hr hlt hj hln hlj
  generalize x.1 = x1 at *
  clear hx
  go_enter Tryd.func12, Tryd.ntmps12
  go_wp2_with (go_at_call 15; refine HH.out.mono ?_; rintro e w1 ⟨rfl, hb1⟩; obtain ⟨c0, c1, c2, f1, W2, e2, _⟩ := HF.out w1 hb1; obtain ⟨d0, d1, d2, g1, W3, e3, y3, hfin, hbel⟩ := HF.out w1.drew hb1.drew; have HFin : Hid (RefY W3 B q (m ++ [(x1 + n, c)]) ∧ RF B w W3) := ⟨hfin, hbel⟩; clear hb1 hfin hbel)
  go_region
  all_goals
    go_wp2
    go_ret
    exact ⟨rfl, HFin.out⟩
/-- The reference's In. -/
theorem rin_any (w : World) (B q : Nat) (m : List Ly) (n c : Int) (h : RefY w B q m) (hok : LyOk m) (hlen : m.length ≤ 800) :
    Calls Tryd.prog 12 #[ptrK q, .int .i64 n, .int .i64 c] w fun e w' => e = .returned (.int .i64 (inE m n c)) ∧ RefY w' B q (inL m n c) ∧ RF B w w' := by
  by_cases hx : 1 ≤ n ∧ n ≤ 1099511627776 ∧ 0 ≤ c ∧ c ≤ 1048576
  · obtain ⟨h1, h2, h3, h4⟩ := hx
    by_cases h5 : hasY m + n ≤ 1099511627776
    · have hE := inE_ok h1 h2 h3 h4 h5
      have e : inL m n c = addL m n c := by unfold inL; rw [if_pos hE]
      rw [hE, e]
      rcases List.eq_nil_or_concat m with rfl | ⟨m, x, rfl⟩
      · exact rin_first w B q n c h h1 h2 h3 h4
      · rw [List.concat_eq_append] at *
        have hlm : m.length ≤ 800 := by simp at hlen; omega
        rw [addL_snoc]
        by_cases hx : x.2 = c
        · rw [if_pos hx]
          exact rin_same w B q m x n c h hok hlm hx h1 h2 h3 h4 h5
        · rw [if_neg hx]
          exact rin_next w B q m x n c h hok hlm hx h1 h2 h3 h4 h5
    · have hE : inE m n c = 2 := by unfold inE; rw [if_neg fun h9 => h5 h9.2.2.2.2]
      rw [hE]
      refine (rin_many w B q m n c h hok (by omega) h1 h2 h3 h4 (by omega)).mono ?_
      rintro e w' ⟨rfl, hb⟩
      exact ⟨rfl, rinL_err h (by rw [hE]; decide) hb⟩
  · have hE : inE m n c = 2 := by unfold inE; rw [if_neg fun h9 => hx ⟨h9.1, h9.2.1, h9.2.2.1, h9.2.2.2.1⟩]
    rw [hE]
    refine (rin_bound w q n c hx).mono ?_
    rintro e w' ⟨rfl, hb⟩
    exact ⟨rfl, rinL_err h (by rw [hE]; decide) hb⟩
end Go.Proofs.YtefkchmahcjleaaDoor
