/-
  What cost's In answers: pieces that come, to the last layer or to a new one; what it leaves in memory.
-/
import Derived.Test.YtefkchmahcjleaaDoorCoW
namespace Go.Proofs.YtefkchmahcjleaaDoor
open Go.RowKit Go.Lib

/-- What In leaves. -/
def InL (w : World) (B q : Nat) (ks : List Nat) (m : List Ly) (n c : Int) (w' : World) : Prop :=
  ∃ ks', LyAt w' B q ks' (inL m n c) ∧ (∀ k ∈ ks', k ∈ ks ∨ w.heap.size ≤ k) ∧ Off (q :: ks) w w'
theorem inL_err {w : World} {B q : Nat} {ks : List Nat} {m : List Ly} {n c : Int} (h : LyAt w B q ks m) (hE : inE m n c = 2) : InL w B q ks m n c w := by
  refine ⟨ks, ?_, fun k hk => Or.inl hk, Off.refl _ _⟩
  unfold inL
  rw [if_neg (by rw [hE]; decide)]
  exact h
set_option maxHeartbeats 2000000 in
/-- In, of numbers out of bounds. -/
theorem yin_bound (w : World) (s : Nat → Addr) (q : Nat) (n c : Int) (hs : Cs w s) (hx : ¬ (1 ≤ n ∧ n ≤ 1099511627776 ∧ 0 ≤ c ∧ c ≤ 1048576)) :
    Calls Tryd.prog 7 #[ptrK q, .int .i64 n, .int .i64 c] w fun e w' => e = .returned (err (s 1)) ∧ w' = w := by
  have g1 := hs.bound
  have HN : Hid (Calls Tryd.prog 18 _ w _) := ynum_any n w
  clear hs
  by_cases h1 : 1 ≤ n
  · by_cases h2 : n ≤ 1099511627776
    · rw [decide_eq_true h1, decide_eq_true h2] at HN
      by_cases h3 : c < 0
      · clear hx h1 h2
        go_enter Tryd.func7, Tryd.ntmps7
        go_wp2_with (go_at_call 18; refine HN.out.mono ?_; rintro e w1 ⟨rfl, hw⟩; have hw' := hw.symm; subst hw')
        go_ret
        exact ⟨rfl, rfl⟩
      · have h4 : 1048576 < c := by omega
        clear hx h1 h2
        go_enter Tryd.func7, Tryd.ntmps7
        go_wp2_with (go_at_call 18; refine HN.out.mono ?_; rintro e w1 ⟨rfl, hw⟩; have hw' := hw.symm; subst hw')
        go_ret
        exact ⟨rfl, rfl⟩
    · rw [decide_eq_true h1, decide_eq_false h2] at HN
      clear hx h1 h2
      go_enter Tryd.func7, Tryd.ntmps7
      go_wp2_with (go_at_call 18; refine HN.out.mono ?_; rintro e w1 ⟨rfl, hw⟩; have hw' := hw.symm; subst hw')
      go_ret
      exact ⟨rfl, rfl⟩
  · rw [decide_eq_false h1] at HN
    clear hx h1
    go_enter Tryd.func7, Tryd.ntmps7
    go_wp2_with (go_at_call 18; refine HN.out.mono ?_; rintro e w1 ⟨rfl, hw⟩; have hw' := hw.symm; subst hw')
    go_ret
    exact ⟨rfl, rfl⟩
set_option maxHeartbeats 2000000 in
/-- In, of more than there may be. -/
theorem yin_many (w : World) (s : Nat → Addr) (B q : Nat) (ks : List Nat) (m : List Ly) (n c : Int) (h : LyAt w B q ks m) (hs : Cs w s) (h1 : 1 ≤ n) (h2 : n ≤ 1099511627776) (h3 : 0 ≤ c) (h4 : c ≤ 1048576) (hx : 1099511627776 < hasY m + n) :
    Calls Tryd.prog 7 #[ptrK q, .int .i64 n, .int .i64 c] w fun e w' => e = .returned (err (s 1)) ∧ w' = w := by
  have g1 := hs.bound
  have hm := h.ok.most
  have hm0 := hasY_nonneg h.ok.pos
  have c2 : w.cell? ⟨q, 2, none⟩ = some (.int .i64 (hasY m)) := cell_blk h.r.top 2
  have hN := ynum_any n w
  rw [decide_eq_true h1, decide_eq_true h2] at hN
  have HN : Hid (Calls Tryd.prog 18 _ w _) := hN
  generalize hasY m = H at *
  clear h hs hN
  go_enter Tryd.func7, Tryd.ntmps7
  go_wp2_with (go_at_call 18; refine HN.out.mono ?_; rintro e w1 ⟨rfl, hw⟩; have hw' := hw.symm; subst hw')
  go_ret
  exact ⟨rfl, rfl⟩
theorem inE_ok {m : List Ly} {n c : Int} (h1 : 1 ≤ n) (h2 : n ≤ 1099511627776) (h3 : 0 ≤ c) (h4 : c ≤ 1048576) (h5 : hasY m + n ≤ 1099511627776) : inE m n c = 0 := by unfold inE; rw [if_pos ⟨h1, h2, h3, h4, h5⟩]
set_option maxHeartbeats 4000000 in
/-- In, the first layer. -/
theorem yin_first (w : World) (B q : Nat) (n c : Int) (h : LyAt w B q [] []) (h1 : 1 ≤ n) (h2 : n ≤ 1099511627776) (h3 : 0 ≤ c) (h4 : c ≤ 1048576) :
    Calls Tryd.prog 7 #[ptrK q, .int .i64 n, .int .i64 c] w fun e w' => e = .returned .nilIface ∧ InL w B q [] [] n c w' := by
  have hE := inE_ok (m := []) h1 h2 h3 h4 (by rw [hasY_nil]; omega)
  have c1 : w.cell? ⟨q, 1, none⟩ = some nilP := cell_blk h.r.top 1
  have c2 : w.cell? ⟨q, 2, none⟩ = some (.int .i64 0) := cell_blk h.r.top 2
  have hN := ynum_any n w
  rw [decide_eq_true h1, decide_eq_true h2] at hN
  have HN : Hid (Calls Tryd.prog 18 _ w _) := hN
  -- a new layer
  have hql := h.r.lt q (by simp)
  have nA := heap_alloc_new w (.cells #[.int .i64 0, .int .i64 c, nilP] 50)
  have bA : Below w.heap.size w (w.alloc (.cells #[.int .i64 0, .int .i64 c, nilP] 50)) := (Below.refl _ w).alloc (Nat.le_refl _) _
  obtain ⟨wA, hA⟩ : ∃ wA, w.alloc (.cells #[.int .i64 0, .int .i64 c, nilP] 50) = wA := ⟨_, rfl⟩
  rw [hA] at nA bA
  obtain ⟨p, hp⟩ : ∃ p, w.heap.size = p := ⟨_, rfl⟩
  rw [hp] at nA
  have hqp : q ≠ p := by omega
  have qA : wA.heap[q]? = _ := (bA.block q hql).trans h.r.top
  have HAd : Hid (Calls Tryd.prog 19 _ wA _) := yadd_nil q p _ _ wA qA
  have hst : ∀ w2, w2.heap[q]? = some (.cells #[ptrK p, ptrK p, .int .i64 0] 47 (0, 0)) → Off [q] wA w2 → ∃ w3 w4, w2.setCell ⟨p, 0, none⟩ (.int .i64 n) = w3 ∧ w3.setCell ⟨q, 2, none⟩ (.int .i64 n) = w4 ∧
      w2.cell? ⟨q, 1, none⟩ = some (ptrK p) ∧ w2.cell? ⟨p, 0, none⟩ = some (.int .i64 0) ∧ w2.frozen? ⟨p, 0, none⟩ = false ∧ w3.cell? ⟨q, 2, none⟩ = some (.int .i64 0) ∧ w3.frozen? ⟨q, 2, none⟩ = false ∧ InL w B q [] [] n c w4 := by
    intro w2 hq2 ho2
    have hp2 : w2.heap[p]? = _ := (ho2.block p (Array.getElem?_eq_some_iff.1 nA).1 (by simp; exact fun e => hqp e.symm)).trans nA
    obtain ⟨w3, e3, a3, k3, o3, _⟩ := set_blk (c' := #[.int .i64 n, .int .i64 c, nilP]) hp2 0 (.int .i64 n) rfl
    have hq3 := (k3 q hqp).trans hq2
    obtain ⟨w4, e4, a4, k4, o4, _⟩ := set_blk (c' := #[ptrK p, ptrK p, .int .i64 n]) hq3 2 (.int .i64 n) rfl
    have hp4 := (k4 p (fun e => hqp e.symm)).trans a3
    refine ⟨w3, w4, e3, e4, cell_blk hq2 1, cell_blk hp2 0, frozen_of_heap hp2 0, cell_blk hq3 2, frozen_of_heap hq3 2, [p], ⟨⟨?_, ?_, ?_, ?_⟩, h.ok.in_ n c⟩, fun k hk => Or.inr ?_, ?_⟩
    · unfold inL
      rw [if_pos hE, addL_nil, hasY_cons, hasY_nil]
      rw [Int.add_zero]; exact a4
    · unfold inL
      rw [if_pos hE, addL_nil]
      exact ⟨hp4, trivial⟩
    · simp [hqp]
    · intro k hk
      rcases List.mem_cons.1 hk with rfl | hk
      · exact h.r.lo k (by simp)
      · rw [List.mem_singleton.1 hk]
        have := h.r.lo q (by simp)
        omega
    · rw [List.mem_singleton.1 hk]; omega
    · have z := Nat.le_trans bA.size (Nat.le_trans ho2.size (Nat.le_trans o3.size o4.size))
      exact ⟨((o4.os.trans o3.os).trans ho2.os).trans bA.os, ((o4.tape.trans o3.tape).trans ho2.tape).trans bA.tape, ((o4.output.trans o3.output).trans ho2.output).trans bA.output, z, fun k hk hx => by
        have hkq : k ≠ q := fun e => hx (by simp [e])
        have hkp : k ≠ p := by omega
        exact (k4 k hkq).trans ((k3 k hkp).trans ((ho2.block k (by have := bA.size; omega) (by simp [hkq])).trans (bA.block k hk)))⟩
  have HS : Hid (∀ w2, w2.heap[q]? = some (.cells #[ptrK p, ptrK p, .int .i64 0] 47 (0, 0)) → Off [q] wA w2 → _) := hst
  generalize InL w B q [] [] n c = PP at *
  clear h hE hN nA bA qA hst hql hqp
  go_enter Tryd.func7, Tryd.ntmps7
  go_wp2_with (first
    | (go_at_call 18; refine HN.out.mono ?_; rintro e w1 ⟨rfl, hw⟩; have hw' := hw.symm; subst hw')
    | (go_at_call 19; (try rw [hp]); refine HAd.out.mono ?_; rintro e w2 ⟨rfl, hq2, ho2⟩; obtain ⟨w3, w4, e3, e4, x1, x2, x3, x4, x5, HPx⟩ := HS.out w2 hq2 ho2; have HPx : Hid (PP w4) := HPx; clear hq2 ho2))
  go_ret
  exact ⟨rfl, HPx.out⟩
theorem part_last {w : World} {ks : List Nat} {m : List Ly} {x : Ly} (h : Lnk w ks (m ++ [x]) nilP) : ∃ k0 k, ks = k0 ++ [k] ∧ Lnk w k0 m (ptrK k) ∧ w.heap[k]? = some (celY x nilP) := by
  obtain ⟨k1, k2, rfl, h1, h2⟩ := h.part
  obtain ⟨k, k3, rfl, h3, h4⟩ := h2.cons
  obtain rfl := h4.nil
  exact ⟨k1, k, rfl, h1, h3⟩
set_option maxHeartbeats 4000000 in
/-- In, to the last layer. -/
theorem yin_same (w : World) (B q : Nat) (ks : List Nat) (m : List Ly) (x : Ly) (n c : Int) (h : LyAt w B q ks (m ++ [x])) (hx : x.2 = c) (h1 : 1 ≤ n) (h2 : n ≤ 1099511627776) (h3 : 0 ≤ c) (h4 : c ≤ 1048576) (h5 : hasY (m ++ [x]) + n ≤ 1099511627776) :
    Calls Tryd.prog 7 #[ptrK q, .int .i64 n, .int .i64 c] w fun e w' => e = .returned .nilIface ∧ InL w B q ks (m ++ [x]) n c w' := by
  have hE := inE_ok h1 h2 h3 h4 h5
  have hm0 := hasY_nonneg h.ok.pos
  have hx1 := (h.ok.pos x (by simp)).1
  have hx2 : x.1 ≤ hasY (m ++ [x]) := by
    have h9 : PosY m := fun y hy => h.ok.pos y (by simp [hy])
    have := hasY_nonneg h9
    rw [hasY_app, hasY_cons, hasY_nil]
    omega
  obtain ⟨k0, k, rfl, hl0, hk⟩ := part_last h.r.lnk
  have hq := h.r.top
  rw [lastY_snoc] at hq
  have hqk : q ≠ k := fun e => by have := (List.nodup_cons.1 h.r.nd).1; exact this (by simp [e])
  have hk0 : k ∉ k0 := fun e => by
    have := (List.nodup_append.1 (List.nodup_cons.1 h.r.nd).2).2.2 k e k (by simp)
    exact this rfl
  have c1 : w.cell? ⟨q, 1, none⟩ = some (ptrK k) := cell_blk hq 1
  have c2 : w.cell? ⟨q, 2, none⟩ = some (.int .i64 (hasY (m ++ [x]))) := cell_blk hq 2
  have d0 : w.cell? ⟨k, 0, none⟩ = some (.int .i64 x.1) := cell_blk hk 0
  have d1 : w.cell? ⟨k, 1, none⟩ = some (.int .i64 c) := by rw [← hx]; exact cell_blk hk 1
  have f0 := frozen_of_heap hk 0
  obtain ⟨w1, e1, a1, k1, o1, _⟩ := set_blk (c' := #[.int .i64 (x.1 + n), .int .i64 x.2, nilP]) hk 0 (.int .i64 (x.1 + n)) rfl
  have hq1 := (k1 q hqk).trans hq
  have c3 : w1.cell? ⟨q, 2, none⟩ = some (.int .i64 (hasY (m ++ [x]))) := cell_blk hq1 2
  have f1 := frozen_of_heap hq1 2
  obtain ⟨w2, e2, a2, k2, o2, _⟩ := set_blk (c' := #[hdY (k0 ++ [k]) nilP, ptrK k, .int .i64 (hasY (m ++ [x]) + n)]) hq1 2 (.int .i64 (hasY (m ++ [x]) + n)) rfl
  have hO : Off (q :: (k0 ++ [k])) w w2 := (o1.mono (by simp)).trans (o2.mono (by simp))
  have HP : Hid (InL w B q (k0 ++ [k]) (m ++ [x]) n c w2) := by
    have e9 : inL (m ++ [x]) n c = m ++ [(x.1 + n, c)] := by
      unfold inL
      rw [if_pos hE, addL_snoc, if_pos hx]
    have hb : w2.heap[k]? = some (celY (x.1 + n, c) nilP) := by rw [← hx]; exact (k2 k (fun e => hqk e.symm)).trans a1
    refine ⟨k0 ++ [k], ⟨⟨?_, ?_, h.r.nd, h.r.lo⟩, h.ok.in_ n c⟩, fun j hj => Or.inl hj, hO⟩
    · rw [e9, lastY_snoc, hasY_app, hasY_cons, hasY_nil]
      rw [hasY_app, hasY_cons, hasY_nil] at a2
      rw [a2]
      show some (Obj.cells #[_, _, .int .i64 (hasY m + (x.1 + 0) + n)] _ _) = some (Obj.cells #[_, _, .int .i64 (hasY m + (x.1 + n + 0))] _ _)
      rw [show hasY m + (x.1 + 0) + n = hasY m + (x.1 + n + 0) by omega]
    · rw [e9]
      refine Lnk.app (hl0.of_blocks fun j hj => ?_) ⟨hb, trivial⟩
      have hjq : j ≠ q := fun e => (List.nodup_cons.1 h.r.nd).1 (by rw [← e]; simp [hj])
      have hjk : j ≠ k := fun e => hk0 (e ▸ hj)
      exact (k2 j hjq).trans (k1 j hjk)
  have hN := ynum_any n w
  rw [decide_eq_true h1, decide_eq_true h2] at hN
  have HN : Hid (Calls Tryd.prog 18 _ w _) := hN
  generalize InL w B q (k0 ++ [k]) (m ++ [x]) n c = PP at *
  generalize hasY (m ++ [x]) = H at *
  generalize x.1 = x1 at *
  clear h hE hN hq hk hl0 hk0 a1 a2 k1 k2 o1 o2 hO hq1 hx
  go_enter Tryd.func7, Tryd.ntmps7
  go_wp2_with (go_at_call 18; refine HN.out.mono ?_; rintro e w1 ⟨rfl, hw⟩; have hw' := hw.symm; subst hw')
  go_ret
  exact ⟨rfl, HP.out⟩
set_option maxHeartbeats 4000000 in
/-- In, a layer behind the last one. -/
theorem yin_next (w : World) (B q : Nat) (ks : List Nat) (m : List Ly) (x : Ly) (n c : Int) (h : LyAt w B q ks (m ++ [x])) (hx : x.2 ≠ c) (h1 : 1 ≤ n) (h2 : n ≤ 1099511627776) (h3 : 0 ≤ c) (h4 : c ≤ 1048576) (h5 : hasY (m ++ [x]) + n ≤ 1099511627776) :
    Calls Tryd.prog 7 #[ptrK q, .int .i64 n, .int .i64 c] w fun e w' => e = .returned .nilIface ∧ InL w B q ks (m ++ [x]) n c w' := by
  have hE := inE_ok h1 h2 h3 h4 h5
  have hm0 := hasY_nonneg h.ok.pos
  obtain ⟨k0, k, rfl, hl0, hk⟩ := part_last h.r.lnk
  have hq := h.r.top
  rw [lastY_snoc] at hq
  have hqk : q ≠ k := fun e => by have := (List.nodup_cons.1 h.r.nd).1; exact this (by simp [e])
  have hk0 : k ∉ k0 := fun e => by
    have := (List.nodup_append.1 (List.nodup_cons.1 h.r.nd).2).2.2 k e k (by simp)
    exact this rfl
  have c1 : w.cell? ⟨q, 1, none⟩ = some (ptrK k) := cell_blk hq 1
  have c2 : w.cell? ⟨q, 2, none⟩ = some (.int .i64 (hasY (m ++ [x]))) := cell_blk hq 2
  have d1 : w.cell? ⟨k, 1, none⟩ = some (.int .i64 x.2) := cell_blk hk 1
  have hql := h.r.lt q (by simp)
  have hkl := h.r.lt k (by simp)
  have nA := heap_alloc_new w (.cells #[.int .i64 0, .int .i64 c, nilP] 50)
  have bA : Below w.heap.size w (w.alloc (.cells #[.int .i64 0, .int .i64 c, nilP] 50)) := (Below.refl _ w).alloc (Nat.le_refl _) _
  obtain ⟨wA, hA⟩ : ∃ wA, w.alloc (.cells #[.int .i64 0, .int .i64 c, nilP] 50) = wA := ⟨_, rfl⟩
  rw [hA] at nA bA
  obtain ⟨p, hp⟩ : ∃ p, w.heap.size = p := ⟨_, rfl⟩
  rw [hp] at nA
  have hqp : q ≠ p := by omega
  have hkp : k ≠ p := by omega
  have HAd : Hid (Calls Tryd.prog 19 _ wA _) := yadd_some q k p _ _ x _ wA ((bA.block q hql).trans hq) ((bA.block k hkl).trans hk) hqk
  have hst : ∀ w2, w2.heap[q]? = some (.cells #[hdY (k0 ++ [k]) nilP, ptrK p, .int .i64 (hasY (m ++ [x]))] 47 (0, 0)) → w2.heap[k]? = some (celY x (ptrK p)) → Off [q, k] wA w2 → ∃ w3 w4, w2.setCell ⟨p, 0, none⟩ (.int .i64 n) = w3 ∧ w3.setCell ⟨q, 2, none⟩ (.int .i64 (hasY (m ++ [x]) + n)) = w4 ∧
      w2.cell? ⟨q, 1, none⟩ = some (ptrK p) ∧ w2.cell? ⟨p, 0, none⟩ = some (.int .i64 0) ∧ w2.frozen? ⟨p, 0, none⟩ = false ∧ w3.cell? ⟨q, 2, none⟩ = some (.int .i64 (hasY (m ++ [x]))) ∧ w3.frozen? ⟨q, 2, none⟩ = false ∧ InL w B q (k0 ++ [k]) (m ++ [x]) n c w4 := by
    intro w2 hq2 hk2 ho2
    have hp2 : w2.heap[p]? = _ := (ho2.block p (Array.getElem?_eq_some_iff.1 nA).1 (by simp; exact ⟨fun e => hqp e.symm, fun e => hkp e.symm⟩)).trans nA
    obtain ⟨w3, e3, a3, k3, o3, _⟩ := set_blk (c' := #[.int .i64 n, .int .i64 c, nilP]) hp2 0 (.int .i64 n) rfl
    have hq3 := (k3 q hqp).trans hq2
    obtain ⟨w4, e4, a4, k4, o4, _⟩ := set_blk (c' := #[hdY (k0 ++ [k]) nilP, ptrK p, .int .i64 (hasY (m ++ [x]) + n)]) hq3 2 (.int .i64 (hasY (m ++ [x]) + n)) rfl
    have hp4 := (k4 p (fun e => hqp e.symm)).trans a3
    have hk4 := (k4 k (fun e => hqk e.symm)).trans ((k3 k hkp).trans hk2)
    have e9 : inL (m ++ [x]) n c = m ++ [x] ++ [(n, c)] := by
      unfold inL
      rw [if_pos hE, addL_snoc, if_neg hx]
    have old : ∀ j, j < w.heap.size → j ≠ q → j ≠ k → w4.heap[j]? = w.heap[j]? := fun j hj hjq hjk =>
      (k4 j hjq).trans ((k3 j (by omega)).trans ((ho2.block j (by have := bA.size; omega) (by simp [hjq, hjk])).trans (bA.block j hj)))
    have hnq := List.nodup_cons.1 h.r.nd
    have hlt := h.r.lt
    refine ⟨w3, w4, e3, e4, cell_blk hq2 1, cell_blk hp2 0, frozen_of_heap hp2 0, cell_blk hq3 2, frozen_of_heap hq3 2, k0 ++ [k] ++ [p], ⟨⟨?_, ?_, ?_, ?_⟩, h.ok.in_ n c⟩, fun j hj => ?_, ?_⟩
    · have e8 : hdY (k0 ++ [k] ++ [p]) nilP = hdY (k0 ++ [k]) nilP := by cases k0 <;> rfl
      rw [e9, e8, lastY_snoc, hasY_app (m ++ [x]), hasY_cons, hasY_nil, a4]
      simp only [Int.add_zero]
    · rw [e9]
      refine Lnk.app (Lnk.app (hl0.of_blocks fun j hj => ?_) ⟨hk4, trivial⟩) ⟨hp4, trivial⟩
      exact old j (hlt j (by simp [hj])) (fun e => hnq.1 (by rw [← e]; simp [hj])) (fun e => hk0 (e ▸ hj))
    · rw [← List.cons_append]
      refine List.nodup_append.2 ⟨h.r.nd, by simp, fun a ha b hb e => ?_⟩
      rw [List.mem_singleton.1 hb] at e
      have := hlt a ha
      omega
    · intro j hj
      rw [← List.cons_append] at hj
      rcases List.mem_append.1 hj with hj | hj
      · exact h.r.lo j hj
      · rw [List.mem_singleton.1 hj]
        have := h.r.lo q (by simp)
        omega
    · rcases List.mem_append.1 hj with hj | hj
      · exact Or.inl hj
      · rw [List.mem_singleton.1 hj]; exact Or.inr (by omega)
    · exact ⟨((o4.os.trans o3.os).trans ho2.os).trans bA.os, ((o4.tape.trans o3.tape).trans ho2.tape).trans bA.tape, ((o4.output.trans o3.output).trans ho2.output).trans bA.output, Nat.le_trans bA.size (Nat.le_trans ho2.size (Nat.le_trans o3.size o4.size)), fun j hj hx9 => old j hj (fun e => hx9 (by simp [e])) (fun e => hx9 (by simp [e]))⟩
  have HS : Hid (∀ w2, w2.heap[q]? = some (.cells #[hdY (k0 ++ [k]) nilP, ptrK p, .int .i64 (hasY (m ++ [x]))] 47 (0, 0)) → w2.heap[k]? = some (celY x (ptrK p)) → Off [q, k] wA w2 → _) := hst
  have hN := ynum_any n w
  rw [decide_eq_true h1, decide_eq_true h2] at hN
  have HN : Hid (Calls Tryd.prog 18 _ w _) := hN
  have hxb : (x.2 == c) = false := by simpa using hx
  generalize InL w B q (k0 ++ [k]) (m ++ [x]) n c = PP at *
  generalize hasY (m ++ [x]) = H at *
  clear h hE hN hq hk hl0 hk0 hst nA bA hqp hkp hqk hql hkl
  go_enter Tryd.func7, Tryd.ntmps7
  go_wp2_with (first
    | (go_at_call 18; refine HN.out.mono ?_; rintro e w1 ⟨rfl, hw⟩; have hw' := hw.symm; subst hw')
    | (go_at_call 19; (try rw [hp]); refine HAd.out.mono ?_; rintro e w2 ⟨rfl, hq2, hk2, ho2⟩; obtain ⟨w3, w4, e3, e4, x1, x2, x3, x4, x5, HPx⟩ := HS.out w2 hq2 hk2 ho2; have HPx : Hid (PP w4) := HPx; clear hq2 hk2 ho2))
  go_ret
  exact ⟨rfl, HPx.out⟩
/-- In. -/
theorem yin_any (w : World) (s : Nat → Addr) (B q : Nat) (ks : List Nat) (m : List Ly) (n c : Int) (h : LyAt w B q ks m) (hs : Cs w s) :
    Calls Tryd.prog 7 #[ptrK q, .int .i64 n, .int .i64 c] w fun e w' => e = .returned (errP s (inE m n c)) ∧ InL w B q ks m n c w' := by
  by_cases hx : 1 ≤ n ∧ n ≤ 1099511627776 ∧ 0 ≤ c ∧ c ≤ 1048576
  · obtain ⟨h1, h2, h3, h4⟩ := hx
    by_cases h5 : hasY m + n ≤ 1099511627776
    · rw [inE_ok h1 h2 h3 h4 h5, errP_zero]
      rcases List.eq_nil_or_concat m with rfl | ⟨m, x, rfl⟩
      · obtain rfl := h.r.lnk.nil
        exact yin_first w B q n c h h1 h2 h3 h4
      · rw [List.concat_eq_append] at *
        by_cases hx : x.2 = c
        · exact yin_same w B q ks m x n c h hx h1 h2 h3 h4 h5
        · exact yin_next w B q ks m x n c h hx h1 h2 h3 h4 h5
    · have hE : inE m n c = 2 := by unfold inE; rw [if_neg fun h9 => h5 h9.2.2.2.2]
      rw [hE]
      refine (yin_many w s B q ks m n c h hs h1 h2 h3 h4 (by omega)).mono ?_
      rintro e w' ⟨rfl, rfl⟩
      exact ⟨rfl, inL_err h hE⟩
  · have hE : inE m n c = 2 := by unfold inE; rw [if_neg fun h9 => hx ⟨h9.1, h9.2.1, h9.2.2.1, h9.2.2.2.1⟩]
    rw [hE]
    refine (yin_bound w s q n c hs hx).mono ?_
    rintro e w' ⟨rfl, rfl⟩
    exact ⟨rfl, inL_err h hE⟩
end Go.Proofs.YtefkchmahcjleaaDoor
