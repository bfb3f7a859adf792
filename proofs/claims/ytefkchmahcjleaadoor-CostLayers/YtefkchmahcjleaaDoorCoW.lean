/-
  What cost's New, whole, numberWell, add, less and Has answer, and what they leave in memory.
-/
import Derived.Test.YtefkchmahcjleaaDoorCoB
import Derived.Test.YtefkchmahcjleaaDoorCom
namespace Go.Proofs.YtefkchmahcjleaaDoor
open Go.RowKit Go.Lib

/-- The two sentinels that a call of cost's answers. -/
structure Cs (w : World) (s : Nat → Addr) : Prop where
  bound : w.cell? ⟨1, 0, none⟩ = some (err (s 1))
  short : w.cell? ⟨2, 0, none⟩ = some (err (s 8))
theorem Sent.cs {w : World} {s : Nat → Addr} (h : Sent w s) : Cs w s := ⟨h.cell 1 (by decide), h.cell 8 (by decide)⟩
theorem Cs.below {w w' : World} {s : Nat → Addr} (h : Cs w s) (hb : Below w.heap.size w w') : Cs w' s where
  bound := by rw [hb.cell (p := ⟨1, 0, none⟩) (cell_lt h.bound)]; exact h.bound
  short := by rw [hb.cell (p := ⟨2, 0, none⟩) (cell_lt h.short)]; exact h.short
set_option maxHeartbeats 1000000 in
/-- New. -/
theorem ynew_any (w : World) : Calls Tryd.prog 6 #[] w fun e w' => e = .returned (ptrK w.heap.size) ∧ w' = w.alloc (.cells #[nilP, nilP, .int .i64 0] 47) := by
  go_enter Tryd.func6, Tryd.ntmps6
  go_wp2
  go_ret
  exact ⟨rfl, rfl⟩
set_option maxHeartbeats 1000000 in
/-- numberWell. -/
theorem ynum_any (n : Int) (w : World) : Calls Tryd.prog 18 #[.int .i64 n] w fun e w' => e = .returned (.bool (decide (1 ≤ n) && decide (n ≤ 1099511627776))) ∧ w' = w := by
  go_enter Tryd.func18, Tryd.ntmps18
  by_cases h1 : 1 ≤ n
  · by_cases h2 : n ≤ 1099511627776
    · rw [decide_eq_true h1, decide_eq_true h2]
      go_wp2
      go_ret
      exact ⟨rfl, rfl⟩
    · rw [decide_eq_true h1, decide_eq_false h2]
      go_wp2
      go_ret
      exact ⟨rfl, rfl⟩
  · rw [decide_eq_false h1]
    go_wp2
    go_ret
    exact ⟨rfl, rfl⟩
set_option maxHeartbeats 1000000 in
/-- whole. -/
theorem ywhole_any (q : Nat) (w : World) : Calls Tryd.prog 20 #[ptrK q] w fun e w' => e = .returned (ptrK q) ∧ w' = w := by
  go_enter Tryd.func20, Tryd.ntmps20
  go_wp2
  go_ret
  exact ⟨rfl, rfl⟩
/-- A cell of a block is stored. -/
theorem set_blk {w : World} {q : Nat} {c c' : Array Value} {T : TypeId} (h : w.heap[q]? = some (.cells c T (0, 0))) (i : Nat) (v : Value) (e : c.setIfInBounds i v = c') : ∃ w1, w.setCell ⟨q, i, none⟩ v = w1 ∧ w1.heap[q]? = some (.cells c' T (0, 0)) ∧ (∀ k, k ≠ q → w1.heap[k]? = w.heap[k]?) ∧ Off [q] w w1 ∧ (∀ x, Off x w w1 ∨ q ∉ x) :=
  ⟨_, rfl, by rw [← e]; exact Joins.block_setCell h v, fun k hk => Below.heap_setCell w ⟨q, i, none⟩ v k hk, (Off.refl [q] w).set (by simp) v, fun x => by
    by_cases hx : q ∈ x
    · exact Or.inl ((Off.refl x w).set hx v)
    · exact Or.inr hx⟩
set_option maxHeartbeats 1000000 in
/-- add, to nothing. -/
theorem yadd_nil (q p : Nat) (e h : Value) (w : World) (hq : w.heap[q]? = some (.cells #[e, nilP, h] 47 (0, 0))) :
    Calls Tryd.prog 19 #[ptrK q, ptrK p] w fun r w' => r = .returned (.tuple #[]) ∧ w'.heap[q]? = some (.cells #[ptrK p, ptrK p, h] 47 (0, 0)) ∧ Off [q] w w' := by
  have c0 : w.cell? ⟨q, 0, none⟩ = some e := cell_blk hq 0
  have c1 : w.cell? ⟨q, 1, none⟩ = some nilP := cell_blk hq 1
  have f0 := frozen_of_heap hq 0
  obtain ⟨w1, e1, h1, _, o1, _⟩ := set_blk (c' := #[ptrK p, nilP, h]) hq 0 (ptrK p) rfl
  have d1 : w1.cell? ⟨q, 1, none⟩ = some nilP := cell_blk h1 1
  have g1 := frozen_of_heap h1 1
  obtain ⟨w2, e2, h2, _, o2, _⟩ := set_blk (c' := #[ptrK p, ptrK p, h]) h1 1 (ptrK p) rfl
  have HH : Hid (w2.heap[q]? = some (.cells #[ptrK p, ptrK p, h] 47 (0, 0))) := h2
  have HO : Hid (Off [q] w w2) := o1.trans o2
  clear h1 h2 hq o1 o2
  go_enter Tryd.func19, Tryd.ntmps19
  go_wp2
  go_end0
  exact ⟨rfl, HH.out, HO.out⟩
set_option maxHeartbeats 1000000 in
/-- add, behind a last one. -/
theorem yadd_some (q k p : Nat) (e h : Value) (x : Ly) (v : Value) (w : World) (hq : w.heap[q]? = some (.cells #[e, ptrK k, h] 47 (0, 0))) (hk : w.heap[k]? = some (celY x v)) (hne : q ≠ k) :
    Calls Tryd.prog 19 #[ptrK q, ptrK p] w fun r w' => r = .returned (.tuple #[]) ∧ w'.heap[q]? = some (.cells #[e, ptrK p, h] 47 (0, 0)) ∧ w'.heap[k]? = some (celY x (ptrK p)) ∧ Off [q, k] w w' := by
  have c1 : w.cell? ⟨q, 1, none⟩ = some (ptrK k) := cell_blk hq 1
  have c2 : w.cell? ⟨k, 2, none⟩ = some v := cell_blk hk 2
  have f0 := frozen_of_heap hk 2
  obtain ⟨w1, e1, h1, k1, o1, _⟩ := set_blk (c' := #[.int .i64 x.1, .int .i64 x.2, ptrK p]) hk 2 (ptrK p) rfl
  have hq1 := (k1 q hne).trans hq
  have d1 : w1.cell? ⟨q, 1, none⟩ = some (ptrK k) := cell_blk hq1 1
  have g1 := frozen_of_heap hq1 1
  obtain ⟨w2, e2, h2, k2, o2, _⟩ := set_blk (c' := #[e, ptrK p, h]) hq1 1 (ptrK p) rfl
  have HH : Hid (w2.heap[q]? = some (.cells #[e, ptrK p, h] 47 (0, 0))) := h2
  have HK : Hid (w2.heap[k]? = some (celY x (ptrK p))) := (k2 k (fun e => hne e.symm)).trans h1
  have HO : Hid (Off [q, k] w w2) := (o1.mono (by simp)).trans (o2.mono (by simp))
  clear h1 h2 hq hk o1 o2 k1 k2 hq1
  go_enter Tryd.func19, Tryd.ntmps19
  go_wp2
  go_end0
  exact ⟨rfl, HH.out, HK.out, HO.out⟩
set_option maxHeartbeats 1000000 in
/-- Has. -/
theorem yhas_any (w : World) (B q : Nat) (ks : List Nat) (m : List Ly) (h : LyAt w B q ks m) : Calls Tryd.prog 14 #[ptrK q] w fun e w' => e = .returned (.int .i64 (hasY m)) ∧ w' = w := by
  have HW : Hid (Calls Tryd.prog 20 _ _ _) := ywhole_any q w
  have c2 : w.cell? ⟨q, 2, none⟩ = some (.int .i64 (hasY m)) := cell_blk h.r.top 2
  generalize hasY m = hv at *
  clear h
  go_enter Tryd.func14, Tryd.ntmps14
  go_wp2_with (go_at_call 20; refine HW.out.mono ?_; rintro e w1 ⟨rfl, hw⟩; have hw' := hw.symm; subst hw')
  go_ret
  exact ⟨rfl, rfl⟩
set_option maxHeartbeats 1000000 in
/-- less, of some of the eldest. -/
theorem yless_part (w : World) (B q k : Nat) (ks : List Nat) (x : Ly) (m : List Ly) (H p : Int) (h : LyR w B q (k :: ks) (x :: m) H) (h0 : 0 ≤ p) (h1 : p < x.1) (h2 : x.1 ≤ 1099511627776) :
    Calls Tryd.prog 21 #[ptrK q, .int .i64 p] w fun r w' => r = .returned (.tuple #[]) ∧ LyR w' B q (k :: ks) ((x.1 - p, x.2) :: m) H ∧ Off (q :: k :: ks) w w' := by
  have hk := h.lnk.1
  have hq := h.top
  have hqk : q ≠ k := fun e => by have := (List.nodup_cons.1 h.nd).1; exact this (by simp [e])
  have c0 : w.cell? ⟨q, 0, none⟩ = some (ptrK k) := cell_blk hq 0
  have d0 : w.cell? ⟨k, 0, none⟩ = some (.int .i64 x.1) := cell_blk hk 0
  have f0 := frozen_of_heap hk 0
  obtain ⟨w1, hw1, k1, q1, hO, _⟩ := set_blk (c' := #[.int .i64 (x.1 - p), .int .i64 x.2, hdY ks nilP]) hk 0 (.int .i64 (x.1 - p)) rfl
  have q1 := (q1 q hqk).trans hq
  have k1' : w1.heap[k]? = some (celY (x.1 - p, x.2) (hdY ks nilP)) := k1
  have c1 : w1.cell? ⟨q, 0, none⟩ = some (ptrK k) := cell_blk q1 0
  have d1 : w1.cell? ⟨k, 0, none⟩ = some (.int .i64 (x.1 - p)) := cell_blk k1' 0
  have HR : Hid (LyR w1 B q (k :: ks) ((x.1 - p, x.2) :: m) H) := by
    refine ⟨q1, ⟨k1', h.lnk.2.of_blocks fun j hj => hO.block j (h.lnk.2.lt j hj) ?_⟩, h.nd, h.lo⟩
    have := (List.nodup_cons.1 (List.nodup_cons.1 h.nd).2).1
    intro e
    rw [List.mem_singleton.1 e] at hj
    exact this hj
  have HO : Hid (Off (q :: k :: ks) w w1) := hO.mono (by simp)
  clear h hk hq k1 q1 hO k1'
  go_enter Tryd.func21, Tryd.ntmps21
  go_wp2
  refine bodyPost_ret (results_none rfl _ _ _) rfl ?_
  exact ⟨rfl, HR.out, HO.out⟩
set_option maxHeartbeats 1000000 in
/-- less, of all of the eldest, which is not the last one. -/
theorem yless_all (w : World) (B q k k' : Nat) (ks : List Nat) (x : Ly) (m : List Ly) (H : Int) (h : LyR w B q (k :: k' :: ks) (x :: m) H) :
    Calls Tryd.prog 21 #[ptrK q, .int .i64 x.1] w fun r w' => r = .returned (.tuple #[]) ∧ LyR w' B q (k' :: ks) m H ∧ Off (q :: k :: k' :: ks) w w' := by
  have hk := h.lnk.1
  have hq := h.top
  have hqk : q ≠ k := fun e => by have := (List.nodup_cons.1 h.nd).1; exact this (by simp [e])
  have c0 : w.cell? ⟨q, 0, none⟩ = some (ptrK k) := cell_blk hq 0
  have d0 : w.cell? ⟨k, 0, none⟩ = some (.int .i64 x.1) := cell_blk hk 0
  have f0 := frozen_of_heap hk 0
  obtain ⟨w1, hw1, k1, q1, hO, _⟩ := set_blk (c' := #[.int .i64 0, .int .i64 x.2, hdY (k' :: ks) nilP]) hk 0 (.int .i64 0) rfl
  have q1 := (q1 q hqk).trans hq
  have k1' : w1.heap[k]? = some (celY (0, x.2) (ptrK k')) := k1
  have c1 : w1.cell? ⟨q, 0, none⟩ = some (ptrK k) := cell_blk q1 0
  have d1 : w1.cell? ⟨k, 0, none⟩ = some (.int .i64 0) := cell_blk k1' 0
  have d2 : w1.cell? ⟨k, 2, none⟩ = some (ptrK k') := cell_blk k1' 2
  have f1 := frozen_of_heap q1 0
  obtain ⟨w2, hw2, q2, _, oO2, _⟩ := set_blk (c' := #[ptrK k', lastY (k :: k' :: ks), .int .i64 H]) q1 0 (ptrK k') rfl
  have hO2 : Off [q, k] w w2 := (hO.mono (by simp)).trans (oO2.mono (by simp))
  have q2' : w2.heap[q]? = some (.cells #[ptrK k', lastY (k' :: ks), .int .i64 H] 47 (0, 0)) := by rw [lastY_cons2] at q2; exact q2
  have c2 : w2.cell? ⟨q, 0, none⟩ = some (ptrK k') := cell_blk q2' 0
  have HR : Hid (LyR w2 B q (k' :: ks) m H) := by
    have hn := List.nodup_cons.1 h.nd
    have hn2 := List.nodup_cons.1 hn.2
    refine ⟨q2', h.lnk.2.of_blocks fun j hj => hO2.block j (h.lnk.2.lt j hj) ?_, ?_, fun j hj => h.lo j ?_⟩
    · intro e
      rcases List.mem_cons.1 e with e | e
      · exact hn.1 (by rw [← e]; exact List.mem_cons_of_mem _ hj)
      · rw [List.mem_singleton.1 e] at hj
        exact hn2.1 hj
    · exact List.nodup_cons.2 ⟨fun e => hn.1 (List.mem_cons_of_mem _ e), hn2.2⟩
    · rcases List.mem_cons.1 hj with rfl | hj
      · exact List.mem_cons_self ..
      · exact List.mem_cons_of_mem _ (List.mem_cons_of_mem _ hj)
  have HO : Hid (Off (q :: k :: k' :: ks) w w2) := hO2.mono (by simp)
  clear h hk hq k1 q1 hO k1' q2 hO2 q2' oO2
  go_enter Tryd.func21, Tryd.ntmps21
  go_wp2
  go_end0
  exact ⟨rfl, HR.out, HO.out⟩
set_option maxHeartbeats 1000000 in
/-- less, of all of the last one. -/
theorem yless_last (w : World) (B q k : Nat) (x : Ly) (m : List Ly) (H : Int) (h : LyR w B q [k] (x :: m) H) :
    Calls Tryd.prog 21 #[ptrK q, .int .i64 x.1] w fun r w' => r = .returned (.tuple #[]) ∧ LyR w' B q [] m H ∧ Off [q, k] w w' := by
  have hk := h.lnk.1
  have hq := h.top
  have hqk : q ≠ k := fun e => by have := (List.nodup_cons.1 h.nd).1; exact this (by simp [e])
  have c0 : w.cell? ⟨q, 0, none⟩ = some (ptrK k) := cell_blk hq 0
  have d0 : w.cell? ⟨k, 0, none⟩ = some (.int .i64 x.1) := cell_blk hk 0
  have f0 := frozen_of_heap hk 0
  obtain ⟨w1, hw1, k1, q1, hO, _⟩ := set_blk (c' := #[.int .i64 0, .int .i64 x.2, hdY [] nilP]) hk 0 (.int .i64 0) rfl
  have q1 := (q1 q hqk).trans hq
  have k1' : w1.heap[k]? = some (celY (0, x.2) nilP) := k1
  have c1 : w1.cell? ⟨q, 0, none⟩ = some (ptrK k) := cell_blk q1 0
  have d1 : w1.cell? ⟨k, 0, none⟩ = some (.int .i64 0) := cell_blk k1' 0
  have d2 : w1.cell? ⟨k, 2, none⟩ = some nilP := cell_blk k1' 2
  have f1 := frozen_of_heap q1 0
  obtain ⟨w2, hw2, q2, _, oO2, _⟩ := set_blk (c' := #[nilP, ptrK k, .int .i64 H]) q1 0 nilP rfl
  have hO2 : Off [q, k] w w2 := (hO.mono (by simp)).trans (oO2.mono (by simp))
  have c2 : w2.cell? ⟨q, 0, none⟩ = some nilP := cell_blk q2 0
  have d3 : w2.cell? ⟨q, 1, none⟩ = some (ptrK k) := cell_blk q2 1
  have f2 := frozen_of_heap q2 1
  obtain ⟨w3, hw3, q3, _, oO3, _⟩ := set_blk (c' := #[nilP, nilP, .int .i64 H]) q2 1 nilP rfl
  have hO3 : Off [q, k] w w3 := hO2.trans (oO3.mono (by simp))
  have hm : m = [] := List.eq_nil_of_length_eq_zero h.lnk.2.len.symm
  have HR : Hid (LyR w3 B q [] m H) := by
    subst hm
    exact ⟨q3, trivial, by simp, fun j hj => h.lo j (by simp at hj; simp [hj])⟩
  have HO : Hid (Off [q, k] w w3) := hO3
  clear h hk hq k1 q1 hO k1' q2 hO2 q3 hO3 hm oO2 oO3
  go_enter Tryd.func21, Tryd.ntmps21
  go_wp2
  go_end0
  exact ⟨rfl, HR.out, HO.out⟩
/-- less. -/
theorem yless_any (w : World) (B q : Nat) (ks : List Nat) (x : Ly) (m : List Ly) (H p : Int) (h : LyR w B q ks (x :: m) H) (h0 : 0 ≤ p) (h1 : p ≤ x.1) (h2 : x.1 ≤ 1099511627776) :
    Calls Tryd.prog 21 #[ptrK q, .int .i64 p] w fun r w' => r = .returned (.tuple #[]) ∧ ∃ ks', LyR w' B q ks' (lessL x m p) H ∧ (∀ j ∈ ks', j ∈ ks) ∧ Off (q :: ks) w w' := by
  unfold lessL
  obtain ⟨k, ks', rfl, _, _⟩ := h.lnk.cons
  by_cases hp : x.1 ≤ p
  · rw [if_pos hp]
    obtain rfl : p = x.1 := by omega
    cases ks' with
    | nil => exact (yless_last w B q k x m H h).mono fun r w' ⟨a, b, c⟩ => ⟨a, [], b, fun j hj => (by cases hj), c⟩
    | cons k' ks => exact (yless_all w B q k k' ks x m H h).mono fun r w' ⟨a, b, c⟩ => ⟨a, k' :: ks, b, fun j hj => List.mem_cons_of_mem _ hj, c⟩
  · rw [if_neg hp]
    exact (yless_part w B q k ks' x m H p h h0 (by omega) h2).mono fun r w' ⟨a, b, c⟩ => ⟨a, k :: ks', b, fun j hj => hj, c⟩
end Go.Proofs.YtefkchmahcjleaaDoor
