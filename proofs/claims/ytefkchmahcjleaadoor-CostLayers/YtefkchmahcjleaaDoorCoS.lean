/-
  What the reference's In answers, and what it leaves of its layers.
-/
import Derived.Test.YtefkchmahcjleaaDoorCoR
import Derived.Deep.AppendLies
namespace Go.Proofs.YtefkchmahcjleaaDoor
open Go.RowKit Go.Lib

theorem Tryd.infoLy : (Tryd.prog.info? 57).map (fun i => (i.zero, i.size, i.bytes)) = some (some (.agg #[.int .i64 0, .int .i64 0]), 2, 16) := by kernel_rfl
theorem encY_one (x : Ly) : ∀ u ∈ encY x, u.oneCell' = true := by
  intro u hu
  unfold encY at hu
  rcases List.mem_cons.1 hu with rfl | hu
  · rfl
  · rw [List.mem_singleton.1 hu]; rfl
theorem blk_neY {w : World} {x y : Nat} {c c' : Array Value} {T T' : TypeId} {f f' : Nat × Nat} (h : w.heap[x]? = some (.cells c T f)) (h' : w.heap[y]? = some (.cells c' T' f')) (hT : T ≠ T') : x ≠ y := fun e => by
  subst e
  rw [h] at h'
  cases h'
  exact hT rfl
/-- A block of the reference's layers. -/
def RefK (w : World) (k : Nat) : Prop := (∃ c, w.heap[k]? = some (.cells c 39 (0, 0))) ∨ ∃ c, w.heap[k]? = some (.cells c 57 (0, 0))
/-- No old block but the reference's layers is turned. -/
structure OffR (w w' : World) : Prop where
  size : w.heap.size ≤ w'.heap.size
  block : ∀ k, k < w.heap.size → ¬ RefK w k → w'.heap[k]? = w.heap[k]?
theorem OffR.of_below {w w' : World} (h : Below w.heap.size w w') : OffR w w' := ⟨h.size, fun k hk _ => h.block k hk⟩
theorem OffR.trans {w w' w'' : World} (h : OffR w w') (g : OffR w' w'') : OffR w w'' := ⟨Nat.le_trans h.size g.size, fun k hk hn => by
  have e := h.block k hk hn
  refine (g.block k (Nat.lt_of_lt_of_le hk h.size) fun h9 => hn ?_).trans e
  unfold RefK at *
  rw [e] at h9
  exact h9⟩
theorem OffR.set {w : World} {p o : Nat} (h : RefK w p) (v : Value) : OffR w (w.setCell ⟨p, o, none⟩ v) := ⟨by rw [World.size_setCell]; exact Nat.le_refl _, fun k _ hn => Below.heap_setCell w ⟨p, o, none⟩ v k fun e => hn (e ▸ h)⟩
structure RF (B : Nat) (w w' : World) : Prop where
  below : Below B w w'
  off : OffR w w'
theorem RF.of_below {B : Nat} {w w' : World} (hB : B ≤ w.heap.size) (h : Below w.heap.size w w') : RF B w w' := ⟨h.mono hB, OffR.of_below h⟩
/-- What the reference's In leaves. -/
def RInL (w : World) (B q : Nat) (m : List Ly) (n c : Int) (w' : World) : Prop := RefY w' B q (inL m n c) ∧ RF B w w'
theorem rinL_err {w w' : World} {B q : Nat} {m : List Ly} {n c : Int} (h : RefY w B q m) (hE : inE m n c ≠ 0) (hb : Below w.heap.size w w') : RInL w B q m n c w' := by
  unfold RInL inL
  rw [if_neg hE]
  exact ⟨h.below hb, RF.of_below h.base hb⟩
set_option maxHeartbeats 2000000 in
/-- The reference's In, of numbers out of bounds. -/
theorem rin_bound (w : World) (q : Nat) (n c : Int) (hx : ¬ (1 ≤ n ∧ n ≤ 1099511627776 ∧ 0 ≤ c ∧ c ≤ 1048576)) :
    Calls Tryd.prog 12 #[ptrK q, .int .i64 n, .int .i64 c] w fun e w' => e = .returned (.int .i64 2) ∧ Below w.heap.size w w' := by
  by_cases h1 : n < 1
  · clear hx
    go_enter Tryd.func12, Tryd.ntmps12
    go_wp2
    go_ret
    exact ⟨rfl, Below.refl _ _⟩
  · by_cases h2 : 1099511627776 < n
    · clear hx
      go_enter Tryd.func12, Tryd.ntmps12
      go_wp2
      go_ret
      exact ⟨rfl, Below.refl _ _⟩
    · by_cases h3 : c < 0
      · clear hx
        go_enter Tryd.func12, Tryd.ntmps12
        go_wp2
        go_ret
        exact ⟨rfl, Below.refl _ _⟩
      · have h4 : 1048576 < c := by omega
        clear hx
        go_enter Tryd.func12, Tryd.ntmps12
        go_wp2
        go_ret
        exact ⟨rfl, Below.refl _ _⟩
set_option maxHeartbeats 2000000 in
/-- The reference's In, of more than there may be. -/
theorem rin_many (w : World) (B q : Nat) (m : List Ly) (n c : Int) (h : RefY w B q m) (hok : LyOk m) (hlen : m.length ≤ 900) (h1 : 1 ≤ n) (h2 : n ≤ 1099511627776) (h3 : 0 ≤ c) (h4 : c ≤ 1048576) (hx : 1099511627776 < hasY m + n) :
    Calls Tryd.prog 12 #[ptrK q, .int .i64 n, .int .i64 c] w fun e w' => e = .returned (.int .i64 2) ∧ Below w.heap.size w w' := by
  have HH : Hid (Calls Tryd.prog 15 _ w _) := rhas_any w B q m h hok (by omega)
  have hm := hok.most
  have hm0 := hasY_nonneg hok.pos
  generalize hasY m = H at *
  clear h hok hlen
  go_enter Tryd.func12, Tryd.ntmps12
  go_wp2_with (go_at_call 15; refine HH.out.mono ?_; rintro e w1 ⟨rfl, hb1⟩)
  go_ret
  exact ⟨rfl, hb1⟩
/-- What an append to a row of layers leaves. -/
theorem row_append {w W w4 w5 : World} {B q : Nat} {v0 v4 : Value} {m : List Ly} {x : Ly} (hb : Below w.heap.size w W) (h : RefY w B q m) (hr : RowY W B v0 m) (hg : (W.alloc (.cells (encY x).toArray 57)).grownBy w4 v0.ownBlock) (ho : w4.ownsRow B 57 2 v4 (m.length + 1) (flatY m ++ encY x)) (h5 : w4.setCell ⟨q, 0, none⟩ v4 = w5) (hc : ∃ u, W.heap[q]? = some (.cells #[u] 39 (0, 0))) :
    (∃ u, w4.cell? ⟨q, 0, none⟩ = some u) ∧ w4.frozen? ⟨q, 0, none⟩ = false ∧ RefY w5 B q (m ++ [x]) ∧ RF B w w5 := by
  obtain ⟨u, hu⟩ := hc
  have hBw := h.base
  have hqw := h.lt
  have hqW := Nat.lt_of_lt_of_le hqw hb.size
  have hqA : (W.alloc (.cells (encY x).toArray 57)).heap[q]? = _ := (heap_alloc_old W _ hqW).trans hu
  have hqn : v0.ownBlock ≠ some q := fun e => by
    obtain ⟨c, hk⟩ := hr.kind e
    exact blk_neY hk hu (by decide) rfl
  have hq4 := (hg.block q (by simp; omega) (fun e => hqn e.symm)).trans hqA
  have hB4 : Below B w w4 := ((hb.mono hBw).alloc (Nat.le_trans hBw hb.size) _).grown hg (by simp; have := hb.size; omega) (fun k hk => (hr.lt hk).1)
  have h4 : RowY w4 B v4 (m ++ [x]) := by
    unfold RowY
    rw [List.length_append, flatY_app, flatY_one]
    exact ho
  have h5b := Joins.block_setCell (i := 0) hq4 v4
  rw [h5] at h5b
  refine ⟨⟨u, cell_blk hq4 0⟩, frozen_of_heap hq4 0, ⟨⟨v4, by simpa using h5b, h4.kept fun g hg' => ?_⟩, h.lo⟩, ?_⟩
  · rw [← h5]
    refine Below.heap_setCell w4 ⟨q, 0, none⟩ v4 g fun e => ?_
    obtain ⟨c, hk⟩ := h4.kind hg'
    exact blk_neY hk hq4 (by decide) e
  · rw [← h5]
    have o1 : OffR w W := OffR.of_below hb
    have o2 : OffR W w4 := ⟨by have := hg.size; simp at this; omega, fun k hk hn => (hg.block k (by simp; omega) fun e => hn (Or.inr (hr.kind e.symm))).trans (heap_alloc_old W _ hk)⟩
    exact ⟨hB4.setCell h.lo _, (o1.trans o2).trans (OffR.set (Or.inl ⟨_, hq4⟩) _)⟩
set_option maxHeartbeats 4000000 in
set_option maxRecDepth 100000 in
/-- The reference's In, the first layer. -/
theorem rin_first (w : World) (B q : Nat) (n c : Int) (h : RefY w B q []) (h1 : 1 ≤ n) (h2 : n ≤ 1099511627776) (h3 : 0 ≤ c) (h4 : c ≤ 1048576) :
    Calls Tryd.prog 12 #[ptrK q, .int .i64 n, .int .i64 c] w fun e w' => e = .returned (.int .i64 0) ∧ RefY w' B q [(n, c)] ∧ RF B w w' := by
  obtain ⟨i0, hi, hz0, hz1, hz2⟩ := info_parts Tryd.infoLy
  have HH : Hid (Calls Tryd.prog 15 _ w _) := rhas_any w B q [] h LyOk.nil (by decide)
  obtain ⟨a, cp, hq, hr, hlt⟩ := h.later
  have HF : Hid (∀ W, Below w.heap.size w W → W.cell? ⟨q, 0, none⟩ = some (.slice a 0 cp) ∧ RowY W B (.slice a 0 cp) [] ∧ (∃ u, W.heap[q]? = some (.cells #[u] 39 (0, 0)))) := fun W hb => ⟨(hlt W hb).1, hr.below hb, _, (hb.block q h.lt).trans hq⟩
  have HB : Hid (RefY w B q []) := h
  have hBw := h.base
  rw [hasY_nil] at HH
  clear h hq hr hlt
  go_enter Tryd.func12, Tryd.ntmps12
  go_wp2_with (first
    | (go_at_call 15; refine HH.out.mono ?_; rintro e w1 ⟨rfl, hb1⟩; obtain ⟨c0, hr1, hu1⟩ := HF.out w1 hb1; have HB1 : Hid (Below w.heap.size w w1) := hb1; have HR1 : Hid (RowY w1 B (.slice a 0 cp) []) := hr1; have HU1 : Hid (∃ u, w1.heap[q]? = some (.cells #[u] 39 (0, 0))) := hu1; clear hb1 hr1 hu1)
    | (at_builtin; refine wpList_append_lies _ rfl _ _ 37 rfl B 57 i0 (.agg #[.int .i64 0, .int .i64 0]) 2 16 Tryd.underlying37 hi hz0 hz1 hz2 rfl (by decide) (.slice a 0 cp) 0 [] rfl (HR1.out.below ((Below.refl _ w1).alloc (Nat.le_refl _) _)) ⟨w1.heap.size, 0, none⟩ 1 1 (encY (n, c)) rfl rfl (World.news_of_block (heap_alloc_new w1 _)) (encY_one _) (by decide) (by unfold maxLen; omega) (by omega) (by have := HB1.out.size; simp; omega) _ rfl ?_; intro g4 cap4 w4 own4 gr4 _ _; obtain ⟨w5, e5⟩ : ∃ w5, w4.setCell ⟨q, 0, none⟩ (.slice (some ⟨g4, 0, none⟩) (0 + 1) cap4) = w5 := ⟨_, rfl⟩; obtain ⟨⟨u4, x4⟩, f4, hfin, hbel⟩ := row_append (x := (n, c)) HB1.out HB.out HR1.out gr4 (own4) e5 HU1.out; have HFin : Hid (RefY w5 B q ([] ++ [(n, c)]) ∧ RF B w w5) := ⟨hfin, hbel⟩; clear own4 gr4 hfin hbel))
  go_ret
  exact ⟨rfl, HFin.out⟩
set_option maxHeartbeats 4000000 in
set_option maxRecDepth 100000 in
/-- The reference's In, a layer behind the last one. -/
theorem rin_next (w : World) (B q : Nat) (m : List Ly) (x : Ly) (n c : Int) (h : RefY w B q (m ++ [x])) (hok : LyOk (m ++ [x])) (hlen : m.length ≤ 800) (hx : x.2 ≠ c) (h1 : 1 ≤ n) (h2 : n ≤ 1099511627776) (h3 : 0 ≤ c) (h4 : c ≤ 1048576) (h5 : hasY (m ++ [x]) + n ≤ 1099511627776) :
    Calls Tryd.prog 12 #[ptrK q, .int .i64 n, .int .i64 c] w fun e w' => e = .returned (.int .i64 0) ∧ RefY w' B q (m ++ [x] ++ [(n, c)]) ∧ RF B w w' := by
  obtain ⟨i0, hi, hz0, hz1, hz2⟩ := info_parts Tryd.infoLy
  have HH : Hid (Calls Tryd.prog 15 _ w _) := rhas_any w B q (m ++ [x]) h hok (by simp; omega)
  obtain ⟨a, cp, hq, hr, hlt⟩ := h.later
  have hm0 := hasY_nonneg hok.pos
  obtain ⟨g, rfl, _, _⟩ := (hlt w (Below.refl _ _)).2 m.length x (by simp)
  have HF : Hid (∀ W, Below w.heap.size w W → W.cell? ⟨q, 0, none⟩ = some (.slice (some ⟨g, 0, none⟩) (m ++ [x]).length cp) ∧ W.cell? ⟨g, m.length * 2 + 1, none⟩ = some (.int .i64 x.2) ∧ RowY W B (.slice (some ⟨g, 0, none⟩) (m ++ [x]).length cp) (m ++ [x]) ∧ (∃ u, W.heap[q]? = some (.cells #[u] 39 (0, 0)))) := fun W hb => by
    obtain ⟨c0, hc⟩ := hlt W hb
    obtain ⟨g', e, _, h9⟩ := hc m.length x (by simp)
    cases e
    exact ⟨c0, h9, hr.below hb, _, (hb.block q h.lt).trans hq⟩
  have HB : Hid (RefY w B q (m ++ [x])) := h
  have hBw := h.base
  obtain ⟨j, hj⟩ : ∃ j, m.length = j := ⟨_, rfl⟩
  have HJ : Hid (m.length = j) := hj
  obtain ⟨ln, hln⟩ : ∃ ln, (m ++ [x]).length = ln := ⟨_, rfl⟩
  have HLn : Hid ((m ++ [x]).length = ln) := hln
  rw [hj, hln] at HF
  have hlj : ln = j + 1 := by rw [← hln, ← hj]; simp
  have hk : (ln : Int) - 1 = (j : Int) := by omega
  have hw : IntKind.i64.wrap (j : Int) = (j : Int) := by rw [IntKind.wrap_i64]; omega
  have hl9 : ln ≤ 900 := by omega
  have hl0 : j < ln := by omega
  have hxb : (x.2 == c) = false := by simpa using hx
  generalize hasY (m ++ [x]) = H at *
  clear h hok hq hr hlt hx hj hln hlj
  go_enter Tryd.func12, Tryd.ntmps12
  go_wp2_with (first
    | (go_at_call 15; refine HH.out.mono ?_; rintro e w1 ⟨rfl, hb1⟩; obtain ⟨c0, c1, hr1, hu1⟩ := HF.out w1 hb1; have HB1 : Hid (Below w.heap.size w w1) := hb1; have HR1 : Hid (RowY w1 B (.slice (some ⟨g, 0, none⟩) ln cp) (m ++ [x])) := hr1; have HU1 : Hid (∃ u, w1.heap[q]? = some (.cells #[u] 39 (0, 0))) := hu1; have HO1 : Hid (w1.ownsRow B 57 2 (.slice (some ⟨g, 0, none⟩) ln cp) ln (flatY (m ++ [x]))) := (by have := hr1; unfold RowY at this; rw [HLn.out] at this; exact this); clear hb1 hr1 hu1)
    | (at_builtin; refine wpList_append_lies _ rfl _ _ 37 rfl B 57 i0 (.agg #[.int .i64 0, .int .i64 0]) 2 16 Tryd.underlying37 hi hz0 hz1 hz2 rfl (by decide) (.slice (some ⟨g, 0, none⟩) ln cp) ln (flatY (m ++ [x])) rfl (HO1.out.alloc _) ⟨w1.heap.size, 0, none⟩ 1 1 (encY (n, c)) rfl rfl (World.news_of_block (heap_alloc_new w1 _)) (encY_one _) (by decide) (by unfold maxLen; omega) (by omega) (by have := HB1.out.size; simp; omega) _ rfl ?_; intro g4 cap4 w4 own4 gr4 _ _; obtain ⟨w5, e5⟩ : ∃ w5, w4.setCell ⟨q, 0, none⟩ (.slice (some ⟨g4, 0, none⟩) (ln + 1) cap4) = w5 := ⟨_, rfl⟩; obtain ⟨⟨u4, x4⟩, f4, hfin, hbel⟩ := row_append (x := (n, c)) HB1.out HB.out HR1.out gr4 (by rw [HLn.out]; exact own4) e5 HU1.out; have HFin : Hid (RefY w5 B q ((m ++ [x]) ++ [(n, c)]) ∧ RF B w w5) := ⟨hfin, hbel⟩; clear own4 gr4 hfin hbel))
  go_ret
  exact ⟨rfl, HFin.out⟩
end Go.Proofs.YtefkchmahcjleaaDoor
