/-
  What checkTake, less, Take and linesAfter answer and leave: a line set anew, or taken out; nothing else that is old is turned.
-/
import Derived.Test.YtcipbkaopnaiiabGreatDoorKOf
import Derived.RegionTactic
namespace Go.Proofs.YtcipbkaopnaiiabGreatDoor
open Go.RowKit Go.Lib Go.Sort
open Go.Maps (Keyed)

/-- The sentinels of a stock. -/
structure Five (w : World) (s : Nat → Addr) : Prop where
  two : Two w s
  shape : w.cell? ⟨3, 0, none⟩ = some (err (s 2))
  full : w.cell? ⟨2, 0, none⟩ = some (err (s 7))
  short : w.cell? ⟨9, 0, none⟩ = some (err (s 8))
theorem Five.below {w w' : World} {s : Nat → Addr} (h : Five w s) (hb : Below w.heap.size w w') : Five w' s where
  two := h.two.below hb
  shape := by rw [hb.cell (p := ⟨3, 0, none⟩) (cell_lt h.shape)]; exact h.shape
  full := by rw [hb.cell (p := ⟨2, 0, none⟩) (cell_lt h.full)]; exact h.full
  short := by rw [hb.cell (p := ⟨9, 0, none⟩) (cell_lt h.short)]; exact h.short
theorem Sent.five {w : World} {s : Nat → Addr} (h : Sent w s) : Five w s := ⟨h.two, h.cell 2 (by decide), h.cell 7 (by decide), h.cell 8 (by decide)⟩
abbrev boxS (w : World) (k : Sp) : World := w.alloc (.cells #[.string k.1.1, .int .i64 k.1.2.1, .int .i64 k.1.2.2, .string k.2] 104)
theorem boxS_below (w : World) (k : Sp) : Below w.heap.size w (boxS w k) := (Below.refl _ w).alloc (Nat.le_refl _) _

set_option maxHeartbeats 1000000 in
/-- checkTake. -/
theorem checkTake_any (k : Sp) (n : Int) (w : World) (s : Nat → Addr) (p b : Nat) (m : List Ln) (h : IsStock w p b m) (hk : KeyOk k) (hs : Five w s) :
    Calls Tryz.prog 55 #[.pointer (some ⟨p, 0, none⟩), agS k, .int .i64 n] w fun e w' => e = .returned (errP s (takeE m k n)) ∧ Below w.heap.size w w' := by
  have hB := boxS_below w k
  have h1 := h.all hB
  have hl := h1.looks hk
  have hc := h1.cell
  obtain ⟨⟨g1, _⟩, _, _, g2⟩ := hs.below hB
  have hn := fun w => numWell_any n w
  have HB : Hid (Below _ _ _) := hB
  clear hB h1 h hk hs
  have HT : Hid (takeE m k n = if numW n = true then (if n ≤ atL m k then 0 else 9) else 2) := rfl
  generalize atL m k = v at *
  generalize takeE m k n = E at *
  obtain ⟨⟨a, r, bb⟩, c⟩ := k
  unfold agS boxS at *
  simp only at *
  cases hw : numW n with
  | false =>
    rw [hw] at hn
    have HE : Hid (errP s E = err (s 1)) := by show _ = _; rw [HT.out, hw]; rfl
    clear HT
    go_enter Tryz.func55, Tryz.ntmps55
    go_wp2_with (go_at_call 54; refine (hn _).mono ?_; rintro e w1 ⟨rfl, rfl⟩)
    go_ret
    exact ⟨by rw [HE.out]; rfl, HB.out⟩
  | true =>
    rw [hw] at hn
    by_cases hv : n ≤ v
    · have HE : Hid (errP s E = .nilIface) := by show _ = _; rw [HT.out, hw, if_pos rfl, if_pos hv]; rfl
      clear HT
      have hd : decide (v < n) = false := decide_eq_false (by omega)
      go_enter Tryz.func55, Tryz.ntmps55
      go_wp2_with (go_at_call 54; refine (hn _).mono ?_; rintro e w1 ⟨rfl, rfl⟩)
      go_quiet (fail)
      go_wp2
      go_ret
      exact ⟨by rw [HE.out]; rfl, below_drewN HB.out _⟩
    · have HE : Hid (errP s E = err (s 8)) := by show _ = _; rw [HT.out, hw, if_pos rfl, if_neg hv]; rfl
      clear HT
      have hd : decide (v < n) = true := decide_eq_true (by omega)
      go_enter Tryz.func55, Tryz.ntmps55
      go_wp2_with (go_at_call 54; refine (hn _).mono ?_; rintro e w1 ⟨rfl, rfl⟩)
      go_quiet (fail)
      go_wp2
      go_ret
      exact ⟨by rw [HE.out]; rfl, below_drewN HB.out _⟩

/-- A spot in a block of its own. -/
structure BoxS (n : Nat) (k : Sp) (W : World) : Prop where
  c0 : W.cell? ⟨n, 0, none⟩ = some (.string k.1.1)
  c1 : W.cell? ⟨n, 1, none⟩ = some (.int .i64 k.1.2.1)
  c2 : W.cell? ⟨n, 2, none⟩ = some (.int .i64 k.1.2.2)
  c3 : W.cell? ⟨n, 3, none⟩ = some (.string k.2)
theorem BoxS.of_block {n : Nat} {k : Sp} {W W' : World} (h : BoxS n k W) (hb : W'.heap[n]? = W.heap[n]?) : BoxS n k W' where
  c0 := (World.cell?_of_block (a := ⟨n, 0, none⟩) hb).trans h.c0
  c1 := (World.cell?_of_block (a := ⟨n, 1, none⟩) hb).trans h.c1
  c2 := (World.cell?_of_block (a := ⟨n, 2, none⟩) hb).trans h.c2
  c3 := (World.cell?_of_block (a := ⟨n, 3, none⟩) hb).trans h.c3
theorem BoxS.lt {n : Nat} {k : Sp} {W : World} (h : BoxS n k W) : n < W.heap.size := cell_lt h.c0
theorem BoxS.below {n : Nat} {k : Sp} {W W' : World} (h : BoxS n k W) (hb : Below W.heap.size W W') : BoxS n k W' := h.of_block (hb.block n h.lt)
theorem BoxS.new (w : World) (k : Sp) (t n : Nat) (hn : n = w.heap.size) : BoxS n k (w.alloc (.cells #[.string k.1.1, .int .i64 k.1.2.1, .int .i64 k.1.2.2, .string k.2] t)) where
  c0 := by rw [World.cell?_alloc_at _ _ _ _ hn]; rfl
  c1 := by rw [World.cell?_alloc_at _ _ _ _ hn]; rfl
  c2 := by rw [World.cell?_alloc_at _ _ _ _ hn]; rfl
  c3 := by rw [World.cell?_alloc_at _ _ _ _ hn]; rfl
theorem Below.grownAll {w w' : World} (h : Below w.heap.size w w') (row : Option Nat) : w.grownBy w' row := ⟨h.os, h.tape, h.output, h.size, fun k hk _ => h.block k hk⟩
theorem grown_drewN (w : World) (n : Nat) (row : Option Nat) : w.grownBy (w.drewN n) row := ⟨rfl, rfl, rfl, Nat.le_refl _, fun _ _ _ => rfl⟩
theorem grown_trans {a b' c : World} {row : Option Nat} (h : a.grownBy b' row) (k : b'.grownBy c row) : a.grownBy c row := h.andThen k fun _ hj => Or.inr hj
set_option maxHeartbeats 4000000 in
/-- less. -/
theorem less_any (k : Sp) (n : Int) (w : World) (p b : Nat) (m : List Ln) (h : IsStock w p b m) (hk : KeyOk k) (hn : 1 ≤ n) (hm : n ≤ atL m k) :
    Calls Tryz.prog 56 #[.pointer (some ⟨p, 0, none⟩), agS k, .int .i64 n] w fun e w' => e = .returned (.tuple #[]) ∧ IsStock w' p b (withL m k (atL m k - n)) ∧ w.grownBy w' (some b) := by
  have hB := boxS_below w k
  have h1 := h.all hB
  have hbx : BoxS w.heap.size k (boxS w k) := BoxS.new w k _ _ rfl
  have hpb := h.ne
  have hqb : w.heap.size ≠ b := fun e => by have := h.lt.2; omega
  have hg1 : w.grownBy (boxS w k) (some b) := Below.grownAll hB _
  have HW : Hid (Wf (withL m k (atL m k - n))) := h.wf.less hn hm
  have hv0 := h.wf.at_nonneg k
  have hv1 : atL m k ≤ 1099511627776 := Int.le_trans (h.wf.at_le k) (h.wf.most _)
  obtain ⟨kl, hkl⟩ := keyOf_spot hk
  have hS : IsStock (boxS w k).drew p b m := ⟨h1.cell, h1.map, h1.wf⟩
  obtain ⟨st, w2, e1, e2, e3, e4⟩ := hS.entry hk
  have hl := hS.look hk
  obtain ⟨w3, e5, e6, e7⟩ := e4 (atL m k - n)
  have hc := h1.cell
  have hb2 := BoxS.of_block (W := (boxS w k).drew) (W' := w2) (hbx.of_block rfl) (turned_block e3 hqb)
  have hc2 : w2.cell? ⟨p, 0, none⟩ = some (.map (some b)) := (turned_cell (p := ⟨p, 0, none⟩) e3 hpb).trans h1.cell
  have hb3 := BoxS.of_block (W := (boxS w k).drew) (W' := w3) (hbx.of_block rfl) (turned_block e7 hqb)
  have hc3 : w3.cell? ⟨p, 0, none⟩ = some (.map (some b)) := (turned_cell (p := ⟨p, 0, none⟩) e7 hpb).trans h1.cell
  have hg3 : w.grownBy w3 (some b) := grown_trans (grown_trans hg1 (grown_drewN _ 1 _)) e7.grown
  have hl3 : ∀ q, (Instr.lookup 96 (.map (some b)) (agS k) false).run Tryz.prog (w3.drewN q) = .ok (.int .i64 (atL m k - n)) (w3.drewN q) := fun q => (MapL.of_block (w' := w3.drewN q) e6 rfl).look_hit keyed Tryz.underlying96 hkl (List.mem_cons_self ..)
  have hD : ∀ q, ∃ w4, (∀ ty, (Builtin.delete_ #[96, 104] ty #[.map (some b), agS k]).run Tryz.prog (w3.drewN q) = .ok (.tuple #[]) w4) ∧ MapL Tryz.prog 104 w4 b ((without m k).map entN) ∧ (w3.drewN q).mapTurned w4 b := fun q => (MapL.of_block (w' := w3.drewN q) e6 rfl).drop keyed Tryz.underlying96 hkl (u := .int .i64 (atL m k - n)) (List.Perm.refl _)
  have HM : Hid (MapL Tryz.prog 104 w3 b (((k.1, k.2, atL m k - n) :: without m k).map entN)) := e6
  have HG : Hid (w.grownBy w3 (some b)) := hg3
  have HD : Hid (∀ q, ∃ w4, _) := hD
  have HP : Hid (p ≠ b) := hpb
  clear hS e3 e4 e6 e7 h1 hB h hkl hk hg1 hg3 hD hpb hqb
  have HX : Hid (atL m k - n = 0 → withL m k (atL m k - n) = without m k) := fun e => by rw [e, withL_zero]
  have HY : Hid (atL m k - n ≠ 0 → (withL m k (atL m k - n)).Perm ((k.1, k.2, atL m k - n) :: without m k)) := fun e => withL_perm e
  generalize withL m k (atL m k - n) = m' at *
  generalize without m k = mo at *
  generalize atL m k = v at *
  obtain ⟨⟨a, r, bb⟩, c⟩ := k
  unfold agS boxS at *
  simp only at *
  obtain ⟨x0, x1, x2, x3⟩ := hbx
  obtain ⟨y0, y1, y2, y3⟩ := hb2
  obtain ⟨z0, z1, z2, z3⟩ := hb3
  simp only at x0 x1 x2 x3 y0 y1 y2 y3 z0 z1 z2 z3
  go_enter Tryz.func56, Tryz.ntmps56
  go_wp2
  generalize w.alloc (.cells #[.string a, .int .i64 r, .int .i64 bb, .string c] 104) = W at *
  go_region
  by_cases hv : v - n = 0
  · have hvb : (v - n == 0) = true := by simpa using hv
    have HX' := HX.out hv
    go_wp2
    go_quiet (fail)
    go_wp2
    obtain ⟨w4, d1, d2, d3⟩ := HD.out (nq + 1)
    have hc4 : w4.cell? ⟨p, 0, none⟩ = some (.map (some b)) := (turned_cell (p := ⟨p, 0, none⟩) d3 HP.out).trans hc3
    have hg4 : w.grownBy w4 (some b) := grown_trans (grown_trans HG.out (grown_drewN _ (nq + 1) _)) d3.grown
    clear hvb hv HX HY HM hl3 e1 e2 e5 hl
    go_region_law (refine stepL_delete rfl (.tmp 26) (.tmp 27) 96 104 rfl b _ (by simp [Act.eval]) (by simp [Act.eval]) w4 d1 ?_)
    all_goals
      go_end0
      exact ⟨rfl, ⟨hc4, by rw [HX']; exact d2, HW.out⟩, hg4⟩
  · have hvb : (v - n == 0) = false := by simpa using hv
    have HY' := HY.out hv
    go_wp2
    go_quiet (fail)
    go_wp2
    go_end0
    exact ⟨rfl, ⟨hc3, (MapL.of_block (w' := w3.drewN _) HM.out rfl).perm (HY'.symm.map entN), HW.out⟩, grown_trans HG.out (grown_drewN _ _ _)⟩
theorem takeL_zero {m : List Ln} {k : Sp} {n : Int} (h : takeE m k n = 0) : takeL m k n = withL m k (atL m k - n) := by unfold takeL; rw [if_pos h]
theorem takeL_err {m : List Ln} {k : Sp} {n : Int} (h : takeE m k n ≠ 0) : takeL m k n = m := by unfold takeL; rw [if_neg h]
abbrev boxPS (w : World) (x : Pl) (c : ByteArray) : World := (w.alloc (.cells #[.string x.1, .int .i64 x.2.1, .int .i64 x.2.2] 41)).alloc (.cells #[.string x.1, .int .i64 x.2.1, .int .i64 x.2.2, .string c] 104)
theorem boxPS_below (w : World) (x : Pl) (c : ByteArray) : Below w.heap.size w (boxPS w x c) := ((Below.refl _ w).alloc (Nat.le_refl _) _).alloc (by simp) _
set_option maxHeartbeats 2000000 in
/-- Take. -/
theorem take_any (x : Pl) (c : ByteArray) (n : Int) (w : World) (s : Nat → Addr) (p b : Nat) (m : List Ln) (h : IsStock w p b m) (hk : KeyOk (x, c)) (hs : Five w s) :
    Calls Tryz.prog 16 #[.pointer (some ⟨p, 0, none⟩), agP x, .string c, .int .i64 n] w fun e w' => e = .returned (errP s (takeE m (x, c) n)) ∧ IsStock w' p b (takeL m (x, c) n) ∧ w.grownBy w' (some b) := by
  have hB := boxPS_below w x c
  have h1 := h.all hB
  have hbx : BoxS (w.heap.size + 1) (x, c) (boxPS w x c) := BoxS.new _ (x, c) _ _ (by simp)
  have hC := checkTake_any (x, c) n _ s p b m h1 hk (hs.below hB)
  have hg1 : w.grownBy (boxPS w x c) (some b) := Below.grownAll hB _
  by_cases h0 : takeE m (x, c) n = 0
  · obtain ⟨t1, _, t3⟩ := takeE_zero h0
    have hL := fun w1 (hb : Below (boxPS w x c).heap.size (boxPS w x c) w1) => less_any (x, c) n w1 p b m (h1.all hb) hk t1 t3
    rw [h0, errP_zero] at hC
    rw [h0, errP_zero, takeL_zero h0]
    generalize withL m (x, c) (atL m (x, c) - n) = m' at *
    clear hs hk h h1 h0 t1 t3
    obtain ⟨a, r, bb⟩ := x
    unfold agP agS boxPS at *
    simp only at *
    have HC : Hid (Calls Tryz.prog 55 _ _ _) := hC
    have HG : Hid (w.grownBy _ (some b)) := hg1
    clear hC hg1 hB
    go_enter Tryz.func16, Tryz.ntmps16
    go_wp2_with (first
      | (go_at_call 55; refine HC.out.mono ?_; rintro e w1 ⟨rfl, hb⟩; obtain ⟨y0, y1, y2, y3⟩ := hbx.below hb; simp only at y0 y1 y2 y3)
      | (go_at_call 56; refine (hL _ hb).mono ?_; rintro e w2 ⟨rfl, hi, hg⟩))
    go_ret
    exact ⟨rfl, hi, grown_trans (grown_trans HG.out (Below.grownAll hb _)) hg⟩
  · rw [errP_pos s h0] at hC
    rw [errP_pos s h0, takeL_err h0]
    generalize s (takeE m (x, c) n - 1) = ad at *
    clear hs hk h h0
    obtain ⟨a, r, bb⟩ := x
    unfold agP agS boxPS at *
    simp only at *
    have HC : Hid (Calls Tryz.prog 55 _ _ _) := hC
    have HG : Hid (w.grownBy _ (some b)) := hg1
    have HS : Hid (IsStock _ p b m) := h1
    clear hC hg1 hB h1 hbx
    go_enter Tryz.func16, Tryz.ntmps16
    go_wp2_with (go_at_call 55; refine HC.out.mono ?_; rintro e w1 ⟨rfl, hb⟩)
    go_ret
    exact ⟨rfl, HS.out.all hb, grown_trans HG.out (Below.grownAll hb _)⟩
abbrev boxSS (w : World) (k k' : Sp) : World := (w.alloc (.cells #[.string k.1.1, .int .i64 k.1.2.1, .int .i64 k.1.2.2, .string k.2] 104)).alloc (.cells #[.string k'.1.1, .int .i64 k'.1.2.1, .int .i64 k'.1.2.2, .string k'.2] 104)
set_option maxHeartbeats 2000000 in
/-- linesAfter. -/
theorem linesAfter_any (k k' : Sp) (n : Int) (w : World) (p b : Nat) (m : List Ln) (h : IsStock w p b m) (hk : KeyOk k) (hk' : KeyOk k') :
    Calls Tryz.prog 57 #[.pointer (some ⟨p, 0, none⟩), agS k, agS k', .int .i64 n] w fun e w' => e = .returned (.int .i64 (linesA m k k' n)) ∧ Below w.heap.size w w' := by
  have hB : Below w.heap.size w (boxSS w k k') := ((Below.refl _ w).alloc (Nat.le_refl _) _).alloc (by simp) _
  have h1 := h.all hB
  have hl1 := h1.looks hk
  have hl2 := h1.looks hk'
  have hM := h1.map
  have hNm : (m.map entN).length = m.length := by simp
  have hc := h1.cell
  have hlen := h.wf.len
  have HB : Hid (Below _ _ _) := hB
  have HN : Hid (linesA m k k' n = (m.length : Int) - (if atL m k = n then 1 else 0) + (if atL m k' = 0 then 1 else 0)) := rfl
  clear hB h1 h hk hk'
  generalize m.map entN = Lm at *
  generalize linesA m k k' n = N at *
  generalize atL m k = v at *
  generalize atL m k' = v' at *
  generalize m.length = ln at *
  obtain ⟨⟨a, r, bb⟩, c⟩ := k
  obtain ⟨⟨a', r', bb'⟩, c'⟩ := k'
  unfold agS boxSS at *
  simp only at *
  by_cases h1 : v = n
  · by_cases h2 : v' = 0
    · have e1 : (v == n) = true := by simpa using h1
      have e2 : (v' == 0) = true := by simpa using h2
      have HE : Hid (N = (ln : Int) - 1 + 1) := by show _ = _; rw [HN.out, if_pos h1, if_pos h2]
      clear HN h1 h2
      go_enter Tryz.func57, Tryz.ntmps57
      go_wp2_with (at_len; refine wpL_len rfl _ 96 rfl 104 3 Tryz.underlying96 b Lm ln hNm rfl hM ?_)
      clear hM
      go_quiet (fail)
      go_wp2
      go_quiet (fail)
      go_wp2
      go_ret
      exact ⟨by rw [HE.out]; first | rfl | (show Ending.returned (Value.int .i64 _) = Ending.returned (Value.int .i64 _); congr 2; omega), by first | exact below_drewN HB.out _ | exact below_drewN (below_drewN HB.out _) _⟩
    · have e1 : (v == n) = true := by simpa using h1
      have e2 : (v' == 0) = false := by simpa using h2
      have HE : Hid (N = (ln : Int) - 1 + 0) := by show _ = _; rw [HN.out, if_pos h1, if_neg h2]
      clear HN h1 h2
      go_enter Tryz.func57, Tryz.ntmps57
      go_wp2_with (at_len; refine wpL_len rfl _ 96 rfl 104 3 Tryz.underlying96 b Lm ln hNm rfl hM ?_)
      clear hM
      go_quiet (fail)
      go_wp2
      go_quiet (fail)
      go_wp2
      go_ret
      exact ⟨by rw [HE.out]; first | rfl | (show Ending.returned (Value.int .i64 _) = Ending.returned (Value.int .i64 _); congr 2; omega), by first | exact below_drewN HB.out _ | exact below_drewN (below_drewN HB.out _) _⟩
  · by_cases h2 : v' = 0
    · have e1 : (v == n) = false := by simpa using h1
      have e2 : (v' == 0) = true := by simpa using h2
      have HE : Hid (N = (ln : Int) - 0 + 1) := by show _ = _; rw [HN.out, if_neg h1, if_pos h2]
      clear HN h1 h2
      go_enter Tryz.func57, Tryz.ntmps57
      go_wp2_with (at_len; refine wpL_len rfl _ 96 rfl 104 3 Tryz.underlying96 b Lm ln hNm rfl hM ?_)
      clear hM
      go_quiet (fail)
      go_wp2
      go_quiet (fail)
      go_wp2
      go_ret
      exact ⟨by rw [HE.out]; first | rfl | (show Ending.returned (Value.int .i64 _) = Ending.returned (Value.int .i64 _); congr 2; omega), by first | exact below_drewN HB.out _ | exact below_drewN (below_drewN HB.out _) _⟩
    · have e1 : (v == n) = false := by simpa using h1
      have e2 : (v' == 0) = false := by simpa using h2
      have HE : Hid (N = (ln : Int) - 0 + 0) := by show _ = _; rw [HN.out, if_neg h1, if_neg h2]
      clear HN h1 h2
      go_enter Tryz.func57, Tryz.ntmps57
      go_wp2_with (at_len; refine wpL_len rfl _ 96 rfl 104 3 Tryz.underlying96 b Lm ln hNm rfl hM ?_)
      clear hM
      go_quiet (fail)
      go_wp2
      go_quiet (fail)
      go_wp2
      go_ret
      exact ⟨by rw [HE.out]; first | rfl | (show Ending.returned (Value.int .i64 _) = Ending.returned (Value.int .i64 _); congr 2; omega), by first | exact below_drewN HB.out _ | exact below_drewN (below_drewN HB.out _) _⟩
end Go.Proofs.YtcipbkaopnaiiabGreatDoor
