/-
  What place.Check and place.Text answer, over every world that holds the sentinels ErrName and ErrBound (and, for Text, strconv's table of powers) as the program lays them. A place that lies in a block of its own. What strings.Cut at one byte answers, over whatever world. What place.parts answers, over whatever world; condition: the text is no longer than a string may be. Plain mathematics of a stock's text: a line is read as it was written and written as it was read; so is a stock; no program is named here. Plain mathematics of lots: which one is sooner, the number of their error; no program is named here. A lot in memory: a block of its own. What lot.Check, lot.Text and the reference's LotError, LotText answer, over every world that holds the sentinels ErrName and ErrBound (and, for Text, strconv's table of powers) as the program lays them.
-/
import Derived.Test.YtgdhfipbbijngaaGreatDoorBzP
import Derived.Test.YtgdhfipbbijngaaGreatDoorBzA
import Derived.Test.YtgdhfipbbijngaaGreatDoorBzN
import Derived.BigQuiet
namespace Go.Proofs.YtgdhfipbbijngaaGreatDoor
open Go.RowKit Go.Lib Go.Sort

set_option maxHeartbeats 1000000 in
/-- place.Check. -/
theorem pcheck_any (x : Pl) (w : World) (s : Nat → Addr) (hz : x.1.size ≤ maxLen) (hs : Two w s) :
    Calls Tryz.prog 59 #[agP x] w fun e w' => e = .returned (errP s (placeErr x)) ∧ Below w.heap.size w w' := by
  obtain ⟨a, r, b⟩ := x
  unfold agP
  simp only at hz ⊢
  have hB : ∀ o, Below w.heap.size w (w.alloc o) := fun o => (Below.refl _ w).alloc (Nat.le_refl _) _
  have hs2 := hs.below (hB (.cells #[.string a, .int .i64 r, .int .i64 b] 27))
  obtain ⟨c1, c2⟩ := hs2
  have hn : ∀ w, Calls Tryz.prog 57 #[.string a] w _ := fun w => name_any a w hz
  cases h1 : isName a.data.toList with
  | false =>
    rw [h1] at hn
    have HE : Hid (errP s (placeErr (a, r, b)) = err (s 4)) := by
      show _ = _
      unfold placeErr; simp only [h1]; rfl
    clear hs
    go_enter Tryz.func59, Tryz.ntmps59
    go_wp2_with (go_at_call 57; refine (hn _).mono ?_; rintro e w1 ⟨rfl, rfl⟩)
    go_ret
    exact ⟨by rw [HE.out]; rfl, hB _⟩
  | true =>
    rw [h1] at hn
    clear hs
    have h2 : (1 ≤ r ∧ r ≤ 20 ∧ 1 ≤ b ∧ b ≤ 40) ∨ (r < 1) ∨ (1 ≤ r ∧ 20 < r) ∨ (1 ≤ r ∧ r ≤ 20 ∧ b < 1) ∨ (1 ≤ r ∧ r ≤ 20 ∧ 1 ≤ b ∧ 40 < b) := by omega
    rcases h2 with ⟨q1, q2, q3, q4⟩ | h2
    · have HE : Hid (errP s (placeErr (a, r, b)) = .nilIface) := by
        show _ = _
        have : well r b = true := by unfold well; simp [q1, q2, q3, q4]
        unfold placeErr; simp only [h1, this]; rfl
      go_enter Tryz.func59, Tryz.ntmps59
      go_wp2_with (go_at_call 57; refine (hn _).mono ?_; rintro e w1 ⟨rfl, rfl⟩)
      go_ret
      exact ⟨by rw [HE.out]; rfl, hB _⟩
    · have HE : Hid (errP s (placeErr (a, r, b)) = err (s 1)) := by
        show _ = _
        have : well r b = false := by unfold well; simp; omega
        unfold placeErr; simp only [h1, this]; rfl
      rcases h2 with h2 | ⟨q1, q2⟩ | ⟨q1, q2, q3⟩ | ⟨q1, q2, q3, q4⟩
      all_goals
        go_enter Tryz.func59, Tryz.ntmps59
        go_wp2_with (go_at_call 57; refine (hn _).mono ?_; rintro e w1 ⟨rfl, rfl⟩)
        go_ret
        exact ⟨by rw [HE.out]; rfl, hB _⟩
/-- A place as a text. -/
def ptext (x : Pl) : ByteArray := if okP x then (((x.1 ++ ⟨#[45]⟩) ++ ⟨(decDigits x.2.1.toNat).toArray⟩) ++ ⟨#[45]⟩) ++ ⟨(decDigits x.2.2.toNat).toArray⟩ else ⟨#[]⟩
/-- Four joinings, one behind the other. -/
theorem joins (a d1 d2 : ByteArray) (ha : a.size ≤ 8) (h1 : d1.size ≤ 13) (h2 : d2.size ≤ 13) : ∃ t1 t2 t3 : ByteArray,
    (∀ w, (Op.stringOp .add a ⟨#[45]⟩).run Tryz.prog w = .ok (.string t1) w) ∧ (∀ w, (Op.stringOp .add t1 d1).run Tryz.prog w = .ok (.string t2) w) ∧ (∀ w, (Op.stringOp .add t2 ⟨#[45]⟩).run Tryz.prog w = .ok (.string t3) w) ∧
    (∀ w, (Op.stringOp .add t3 d2).run Tryz.prog w = .ok (.string ((((a ++ ⟨#[45]⟩) ++ d1) ++ ⟨#[45]⟩) ++ d2)) w) := by
  have e : (⟨#[45]⟩ : ByteArray).size = 1 := rfl
  refine ⟨_, _, _, fun w => run_string_add_sum w _ _ ?_, fun w => run_string_add_sum w _ _ ?_, fun w => run_string_add_sum w _ _ ?_, fun w => run_string_add_sum w _ _ ?_⟩
  all_goals
    simp only [ByteArray.size_append, e]
    omega
set_option maxRecDepth 100000 in
set_option maxHeartbeats 4000000 in
/-- place.Text at a place that is well. -/
theorem ptext_in (x : Pl) (w : World) (s : Nat → Addr) (hz : x.1.size ≤ maxLen) (hs : Two w s) (hp : Pow w) (h : okP x = true) :
    Calls Tryz.prog 45 #[agP x] w fun e w' => e = .returned (.string (ptext x)) ∧ Below w.heap.size w w' := by
  have hc := fun w hs => pcheck_any x w s hz hs
  rw [(okP_err x).1 h, errP_zero] at hc
  obtain ⟨hn, a1, a2, a3, a4⟩ := okP_bounds h
  have ha := name_short hn
  unfold ptext
  rw [if_pos h]
  clear h hn
  obtain ⟨a, r, b⟩ := x
  unfold agP at *
  simp only at *
  have hB : ∀ o, Below w.heap.size w (w.alloc o) := fun o => (Below.refl _ w).alloc (Nat.le_refl _) _
  have hl1 := dec_size r.toNat (by omega)
  have hl2 := dec_size b.toNat (by omega)
  have hI1 := fun w1 (hb : Below w.heap.size w w1) => itoa_any r (by omega) (by omega) w1 (hp.below hb)
  have hI2 := fun w1 (hb : Below w.heap.size w w1) => itoa_any b (by omega) (by omega) w1 (hp.below hb)
  have HC : Hid (Calls Tryz.prog 59 #[.agg #[.string a, .int .i64 r, .int .i64 b]] (w.alloc (.cells #[.string a, .int .i64 r, .int .i64 b] 27)) _) := hc _ (hs.below (hB _))
  clear hc hs hp hz
  generalize (⟨(decDigits r.toNat).toArray⟩ : ByteArray) = d1 at *
  generalize (⟨(decDigits b.toNat).toArray⟩ : ByteArray) = d2 at *
  obtain ⟨t1, t2, t3, s1, s2, s3, s4⟩ := joins a d1 d2 ha hl1 hl2
  generalize ((((a ++ ⟨#[45]⟩) ++ d1) ++ ⟨#[45]⟩) ++ d2 : ByteArray) = t4 at *
  clear hl1 hl2 ha
  go_enter Tryz.func45, Tryz.ntmps45
  go_wp2_with (go_at_call 59; refine HC.out.mono ?_; rintro e w1 ⟨rfl, hb⟩; have g0 : w1.cell? ⟨w.heap.size, 0, none⟩ = some (.string a) := (hb.cell (p := ⟨w.heap.size, 0, none⟩) (by simp)).trans (by simp); have g1 : w1.cell? ⟨w.heap.size, 1, none⟩ = some (.int .i64 r) := (hb.cell (p := ⟨w.heap.size, 1, none⟩) (by simp)).trans (by simp); have g2 : w1.cell? ⟨w.heap.size, 2, none⟩ = some (.int .i64 b) := (hb.cell (p := ⟨w.heap.size, 2, none⟩) (by simp)).trans (by simp); have hb1 : Below w.heap.size w w1 := (hB _).trans (hb.mono (by simp)))
  have hbR : ∀ d os, Below w.heap.size w (grow (redrawn w1 d) os) := fun d os => hb1.trans ((below_regrown w1 d os).mono hb1.size)
  have k0 := cell_regrown g0
  have k1 := cell_regrown g1
  have k2 := cell_regrown g2
  have cI1 := fun d os => Calls.regrown_of (w := w1) (hI1 _ (hbR d os))
  have cI2 := fun d os => Calls.regrown_of (w := w1) (hI2 _ (hbR d os))
  clear g0 g1 g2 hb hb1 HC hI1 hI2
  refine wp_region_quiet_below (by kernel_rfl) (by kernel_rfl) ?_
  repeat (quiet_step (first | (go_at_call_of 28 (Value.int .i64 r); exact cI1 _ _) | (go_at_call_of 28 (Value.int .i64 b); exact cI2 _ _)))
  refine wpQuiet_nil ?_
  intro _ hw'
  obtain ⟨⟨dq, osq⟩, hw''⟩ := hw'
  subst hw''
  have hbE := hbR dq osq
  go_wp2
  go_ret
  exact ⟨rfl, hbE⟩
set_option maxHeartbeats 1000000 in
theorem ptext_out (x : Pl) (w : World) (s : Nat → Addr) (hz : x.1.size ≤ maxLen) (hs : Two w s) (h : okP x = false) :
    Calls Tryz.prog 45 #[agP x] w fun e w' => e = .returned (.string (ptext x)) ∧ Below w.heap.size w w' := by
  have hc := fun w hs => pcheck_any x w s hz hs
  have hk : placeErr x ≠ 0 := fun e => by rw [(okP_err x).2 e] at h; cases h
  rw [errP_pos s hk] at hc
  unfold ptext
  rw [h, if_neg (by decide)]
  clear h
  generalize s (placeErr x - 1) = ad at *
  obtain ⟨a, r, b⟩ := x
  unfold agP at *
  simp only at *
  have hB : ∀ o, Below w.heap.size w (w.alloc o) := fun o => (Below.refl _ w).alloc (Nat.le_refl _) _
  have HC : Hid (Calls Tryz.prog 59 #[.agg #[.string a, .int .i64 r, .int .i64 b]] (w.alloc (.cells #[.string a, .int .i64 r, .int .i64 b] 27)) _) := hc _ (hs.below (hB _))
  clear hc hs hz hk
  go_enter Tryz.func45, Tryz.ntmps45
  go_wp2_with (go_at_call 59; refine HC.out.mono ?_; rintro e w1 ⟨rfl, hb⟩)
  go_ret
  exact ⟨rfl, (hB _).trans (hb.mono (by simp))⟩
/-- place.Text. -/
theorem ptext_any (x : Pl) (w : World) (s : Nat → Addr) (hz : x.1.size ≤ maxLen) (hs : Two w s) (hp : Pow w) :
    Calls Tryz.prog 45 #[agP x] w fun e w' => e = .returned (.string (ptext x)) ∧ Below w.heap.size w w' := by
  cases h : okP x with
  | true => exact ptext_in x w s hz hs hp h
  | false => exact ptext_out x w s hz hs h
end Go.Proofs.YtgdhfipbbijngaaGreatDoor
namespace Go.Proofs.YtgdhfipbbijngaaGreatDoor
open Go.RowKit Go.Lib Go.Sort

/-- A place lies in a block of its own. -/
structure BoxAt (n : Nat) (x : Pl) (W : World) : Prop where
  c0 : W.cell? ⟨n, 0, none⟩ = some (.string x.1)
  c1 : W.cell? ⟨n, 1, none⟩ = some (.int .i64 x.2.1)
  c2 : W.cell? ⟨n, 2, none⟩ = some (.int .i64 x.2.2)
theorem BoxAt.below {n : Nat} {x : Pl} {W W' : World} (h : BoxAt n x W) (hb : Below W.heap.size W W') : BoxAt n x W' where
  c0 := by rw [hb.cell (p := ⟨n, 0, none⟩) (cell_lt h.c0)]; exact h.c0
  c1 := by rw [hb.cell (p := ⟨n, 1, none⟩) (cell_lt h.c1)]; exact h.c1
  c2 := by rw [hb.cell (p := ⟨n, 2, none⟩) (cell_lt h.c2)]; exact h.c2
theorem BoxAt.new (w : World) (x : Pl) (t n : Nat) (hn : n = w.heap.size) : BoxAt n x (w.alloc (.cells #[.string x.1, .int .i64 x.2.1, .int .i64 x.2.2] t)) where
  c0 := by rw [World.cell?_alloc_at _ _ _ _ hn]; rfl
  c1 := by rw [World.cell?_alloc_at _ _ _ _ hn]; rfl
  c2 := by rw [World.cell?_alloc_at _ _ _ _ hn]; rfl
/-- The world of two boxed parameters. -/
abbrev boxTwo (w : World) (x y : Pl) : World := (w.alloc (.cells #[.string x.1, .int .i64 x.2.1, .int .i64 x.2.2] 27)).alloc (.cells #[.string y.1, .int .i64 y.2.1, .int .i64 y.2.2] 27)
theorem boxTwo_below (w : World) (x y : Pl) : Below w.heap.size w (boxTwo w x y) := ((Below.refl _ w).alloc (Nat.le_refl _) _).alloc (by simp) _
theorem boxTwo_first (w : World) (x y : Pl) : BoxAt w.heap.size x (boxTwo w x y) := (BoxAt.new w x _ _ rfl).below ((Below.refl _ _).alloc (Nat.le_refl _) _)
theorem boxTwo_second (w : World) (x y : Pl) : BoxAt (w.heap.size + 1) y (boxTwo w x y) := BoxAt.new _ y _ _ (by simp)

end Go.Proofs.YtgdhfipbbijngaaGreatDoor
namespace Go.Proofs.YtgdhfipbbijngaaGreatDoor
open Go.RowKit Go.Lib

theorem scut_miss (s : ByteArray) (c : UInt8) (w : World) (h : has c s.data.toList = false) :
    Calls Tryz.prog 34 #[.string s, .string ⟨#[c]⟩] w fun e w' => e = .returned (.tuple #[.string s, .string ByteArray.empty, .bool false]) ∧ w' = w := by
  have hi := Tryz.stringslite_Index_one s c w
  rw [indexByte_eq, h, if_neg (by decide)] at hi
  have hc : Calls Tryz.prog 47 #[.string s, .string ⟨#[c]⟩] w fun e w' => e = .returned (.tuple #[.string s, .string ByteArray.empty, .bool false]) ∧ w' = w := by
    go_enter Tryz.func47, Tryz.ntmps47
    go_wp2_with (go_at_call 62; refine hi.mono ?_; rintro e w1 ⟨rfl, rfl⟩)
    go_ret3
    exact ⟨rfl, rfl⟩
  clear hi
  go_enter Tryz.func34, Tryz.ntmps34
  go_wp2_with (go_at_call 47; refine hc.mono ?_; rintro e w1 ⟨rfl, rfl⟩)
  go_ret3
  exact ⟨rfl, rfl⟩
set_option maxHeartbeats 1000000 in
theorem scut_hit (s : ByteArray) (c : UInt8) (w : World) (hz : s.size ≤ maxLen) (h : has c s.data.toList = true) :
    Calls Tryz.prog 34 #[.string s, .string ⟨#[c]⟩] w fun e w' => e = .returned (.tuple #[.string ⟨(pre c s.data.toList).toArray⟩, .string ⟨(post c s.data.toList).toArray⟩, .bool true]) ∧ ∃ n, w' = w.drewN n := by
  have hi := Tryz.stringslite_Index_one s c w
  rw [indexByte_eq, h, if_pos rfl] at hi
  have hl := pre_length_lt c s.data.toList h
  rw [size_len] at hl
  have e1 : (⟨(pre c s.data.toList).toArray⟩ : ByteArray) = s.extract 0 (pre c s.data.toList).length := by
    rw [extract_eq]; simp [take_pre]
  have e2 : (⟨(post c s.data.toList).toArray⟩ : ByteArray) = s.extract ((pre c s.data.toList).length + 1) s.size := by
    rw [extract_eq, drop_pre, List.take_of_length_le]
    rw [← drop_pre, List.length_drop, size_len]; exact Nat.le_refl _
  rw [e1, e2]
  clear e1 e2 h
  unfold maxLen at hz
  generalize (pre c s.data.toList).length = i at *
  have hc : Calls Tryz.prog 47 #[.string s, .string ⟨#[c]⟩] w fun e w' => e = .returned (.tuple #[.string (s.extract 0 i), .string (s.extract (i + 1) s.size), .bool true]) ∧ ∃ n, w' = w.drewN n := by
    go_enter Tryz.func47, Tryz.ntmps47
    go_wp2_with (go_at_call 62; refine hi.mono ?_; rintro e w1 ⟨rfl, rfl⟩)
    go_quiet (fail)
    go_wp2
    go_ret3
    exact ⟨rfl, _, rfl⟩
  clear hi
  go_enter Tryz.func34, Tryz.ntmps34
  go_wp2_with (go_at_call 47; refine hc.mono ?_; rintro e w1 ⟨rfl, n, rfl⟩)
  go_ret3
  exact ⟨rfl, _, rfl⟩
end Go.Proofs.YtgdhfipbbijngaaGreatDoor
namespace Go.Proofs.YtgdhfipbbijngaaGreatDoor
open Go.RowKit Go.Lib Go.Sort

/-- Are row and bay numbers? -/
def plNum (l : List UInt8) : Bool := isNum 4 (cutA 45 (cutB 45 l)) && isNum 4 (cutB 45 (cutB 45 l))
def plOf (l : List UInt8) : Pl := (⟨(cutA 45 l).toArray⟩, numR 4 (cutA 45 (cutB 45 l)), numR 4 (cutB 45 (cutB 45 l)))
def zeroP : Pl := (⟨#[]⟩, 0, 0)
/-- A text as a place, and the number of its error. -/
def readP (l : List UInt8) : Pl × Nat := if plNum l then (if placeErr (plOf l) = 0 then (plOf l, 0) else (zeroP, placeErr (plOf l))) else (zeroP, 1)
theorem scut_any (s : ByteArray) (c : UInt8) (w : World) (hz : s.size ≤ maxLen) :
    Calls Tryz.prog 34 #[.string s, .string ⟨#[c]⟩] w fun e w' => e = .returned (.tuple #[.string ⟨(cutA c s.data.toList).toArray⟩, .string ⟨(cutB c s.data.toList).toArray⟩, .bool (has c s.data.toList)]) ∧ ∃ n, w' = w.drewN n := by
  unfold cutA cutB
  cases h : has c s.data.toList with
  | true => exact scut_hit s c w hz h
  | false =>
    refine (scut_miss s c w h).mono ?_
    rintro e w' ⟨rfl, rfl⟩
    refine ⟨?_, 0, rfl⟩
    have e : (⟨s.data.toList.toArray⟩ : ByteArray) = s := by cases s; simp
    simp [e]; rfl

theorem below_set3 {B n : Nat} {w W : World} (hb : Below B w W) (hn : B ≤ n) (a b c : Value) : Below B w (((W.setCell ⟨n, 0, none⟩ a).setCell ⟨n, 1, none⟩ b).setCell ⟨n, 2, none⟩ c) :=
  ((hb.setCell (p := ⟨n, 0, none⟩) hn _).setCell (p := ⟨n, 1, none⟩) hn _).setCell (p := ⟨n, 2, none⟩) hn _
set_option maxRecDepth 100000 in
set_option maxHeartbeats 2000000 in
theorem parts_p (s : ByteArray) (w : World) (hz : s.size ≤ maxLen) :
    Calls Tryz.prog 65 #[.string s] w fun e w' => e = .returned (.tuple #[agP (plOf s.data.toList), .bool (plNum s.data.toList)]) ∧ Below w.heap.size w w' := by
  have hl0 : s.data.toList.length ≤ maxLen := by rw [size_len]; exact hz
  have hlB := cutB_le 45 s.data.toList
  have hlA := cutA_le 45 (cutB 45 s.data.toList)
  have hlC := cutB_le 45 (cutB 45 s.data.toList)
  have h1 := fun w => scut_any s 45 w hz
  have h2 := fun w => scut_any ⟨(cutB 45 s.data.toList).toArray⟩ 45 w (by rw [mk_size]; omega)
  have h3 := fun w => numRead ⟨(cutA 45 (cutB 45 s.data.toList)).toArray⟩ 4 w (by decide) (by rw [mk_size]; omega)
  have h4 := fun w => numRead ⟨(cutB 45 (cutB 45 s.data.toList)).toArray⟩ 4 w (by decide) (by rw [mk_size]; omega)
  simp only at h2 h3 h4
  unfold plOf plNum agP
  simp only
  generalize (⟨(cutA 45 s.data.toList).toArray⟩ : ByteArray) = zA at *
  generalize has 45 s.data.toList = q1 at *
  generalize has 45 (cutB 45 s.data.toList) = q2 at *
  generalize numR 4 (cutA 45 (cutB 45 s.data.toList)) = n1 at *
  generalize numR 4 (cutB 45 (cutB 45 s.data.toList)) = n2 at *
  generalize isNum 4 (cutA 45 (cutB 45 s.data.toList)) = b1 at *
  generalize isNum 4 (cutB 45 (cutB 45 s.data.toList)) = b2 at *
  generalize (⟨(cutA 45 (cutB 45 s.data.toList)).toArray⟩ : ByteArray) = sA at *
  generalize (⟨(cutB 45 (cutB 45 s.data.toList)).toArray⟩ : ByteArray) = sC at *
  generalize (⟨(cutB 45 s.data.toList).toArray⟩ : ByteArray) = sB at *
  clear hl0 hlB hlA hlC hz
  cases b1
  all_goals
    go_enter Tryz.func65, Tryz.ntmps65
    go_wp2_with (first
      | (go_at_call_of 34 (Value.string s); refine (h1 _).mono ?_; rintro e w1 ⟨rfl, n, rfl⟩)
      | (go_at_call_of 34 (Value.string sB); refine (h2 _).mono ?_; rintro e w2 ⟨rfl, m, rfl⟩)
      | (go_at_call_of 64 (Value.string sA); refine (h3 _).mono ?_; rintro e w3 ⟨rfl, rfl⟩)
      | (go_at_call_of 64 (Value.string sC); refine (h4 _).mono ?_; rintro e w4 ⟨rfl, rfl⟩))
    refine bodyPost_ret (v := .tuple #[.agg #[.string zA, .int .i64 n1, .int .i64 n2], .bool _]) (by simp [results, Tryz.results65, go_sem]) rfl ⟨rfl, ?_⟩
    exact below_set3 (below_drewN ((Below.refl _ w).alloc (Nat.le_refl _) _) _) (Nat.le_refl _) _ _ _
end Go.Proofs.YtgdhfipbbijngaaGreatDoor
namespace Go.Proofs.YtgdhfipbbijngaaGreatDoor
open Go.Lib Go.Sort

theorem fold_ge : ∀ (l : List UInt8) (a : Nat), a ≤ l.foldl (fun n c => n * 10 + (c.toNat - 48)) a
  | [], a => Nat.le_refl _
  | c :: l, a => by
    rw [List.foldl_cons]
    exact Nat.le_trans (by omega) (fold_ge l _)
theorem numVal_pos {l : List UInt8} (h1 : l.all dig = true) (h2 : l ≠ []) (h3 : (l.headD 0).toNat ≠ 48) : 1 ≤ numVal l := by
  cases l with
  | nil => exact absurd rfl h2
  | cons c r =>
    simp only [List.all_cons, Bool.and_eq_true] at h1
    simp only [List.headD_cons] at h3
    have : 48 ≤ c.toNat := by have := h1.1; simp [dig] at this; exact this.1
    unfold numVal
    rw [List.foldl_cons]
    exact Nat.le_trans (by omega) (fold_ge r _)
theorem dec_num : ∀ (n : Nat) (l : List UInt8), l.length = n → l.all dig = true → l ≠ [] → (1 < l.length → (l.headD 0).toNat ≠ 48) → decDigits (numVal l) = l
  | n, l, hn, h1, h2, h3 => by
    obtain ⟨r, c, rfl⟩ : ∃ r c, l = r ++ [c] := ⟨l.dropLast, l.getLast h2, (List.dropLast_concat_getLast h2).symm⟩
    rw [List.all_append, Bool.and_eq_true] at h1
    have hc : dig c = true := by simpa using h1.2
    have hc' : 48 ≤ c.toNat ∧ c.toNat ≤ 57 := by simpa [dig] using hc
    have ec : UInt8.ofNat (48 + (c.toNat - 48)) = c := by
      rw [show 48 + (c.toNat - 48) = c.toNat by omega]; exact UInt8.ofNat_toNat
    rw [numVal_snoc]
    cases r with
    | nil =>
      have e : numVal [] = 0 := rfl
      rw [e, decDigits, dif_pos (by omega)]
      simp only [Nat.zero_mul, Nat.zero_add]
      rw [ec]; rfl
    | cons d r =>
      have hh : ((d :: r).headD 0).toNat ≠ 48 := by
        have := h3 (by simp)
        simpa using this
      have hp := numVal_pos h1.1 (by simp) hh
      have ih := dec_num r.length.succ (d :: r) rfl h1.1 (by simp) (fun _ => hh)
      rw [decDigits, dif_neg (by omega)]
      have e1 : (numVal (d :: r) * 10 + (c.toNat - 48)) / 10 = numVal (d :: r) := by omega
      have e2 : (numVal (d :: r) * 10 + (c.toNat - 48)) % 10 = c.toNat - 48 := by omega
      rw [e1, e2, ih, ec]
  termination_by n => n
  decreasing_by
    subst hn
    simp
theorem isNum_facts {most : Nat} {l : List UInt8} (h : isNum most l = true) : l.all dig = true ∧ l ≠ [] ∧ l.length ≤ most ∧ (1 < l.length → (l.headD 0).toNat ≠ 48) := by
  unfold isNum at h
  simp only [Bool.and_eq_true, Bool.not_eq_true', Bool.and_eq_false_iff, decide_eq_true_eq, decide_eq_false_iff_not] at h
  obtain ⟨⟨⟨h1, h2⟩, h3⟩, h4⟩ := h
  refine ⟨h4, by intro e; subst e; simp at h1, h2, fun h => ?_⟩
  rcases h3 with h3 | h3
  · exact absurd h h3
  · exact h3
/-- A number is written as it was read. -/
theorem dec_isNum {most : Nat} {l : List UInt8} (h : isNum most l = true) : decDigits (numVal l) = l := by
  obtain ⟨h1, h2, _, h3⟩ := isNum_facts h
  exact dec_num _ l rfl h1 h2 h3
theorem has_of_all {c : UInt8} {f : UInt8 → Bool} (hf : f c = false) {l : List UInt8} (h : l.all f = true) : has c l = false := by
  unfold has
  rw [List.any_eq_false]
  intro x hx e
  have := List.all_eq_true.1 h x hx
  rw [beq_iff_eq.1 e, hf] at this
  cases this
theorem name_all {l : List UInt8} (h : isName l = true) : l.all nameB = true := by unfold isName at h; simp only [Bool.and_eq_true] at h; exact h.1
theorem has_name {c : UInt8} (hc : nameB c = false) {l : List UInt8} (h : isName l = true) : has c l = false := has_of_all hc (name_all h)
theorem has_append (c : UInt8) (a b : List UInt8) : has c (a ++ b) = (has c a || has c b) := by unfold has; rw [List.any_append]
theorem has_cons (c d : UInt8) (b : List UInt8) : has c (d :: b) = ((d == c) || has c b) := by unfold has; rw [List.any_cons]
theorem cut_at {c : UInt8} {a : List UInt8} (b : List UInt8) (h : has c a = false) : has c (a ++ c :: b) = true ∧ cutA c (a ++ c :: b) = a ∧ cutB c (a ++ c :: b) = b := by
  obtain ⟨h1, h2, h3⟩ := pre_append c a b h
  exact ⟨h3, by rw [cutA_yes h3, h1], by rw [cutB_yes h3, h2]⟩
theorem cut_none {c : UInt8} {a : List UInt8} (h : has c a = false) : cutA c a = a := by unfold cutA; rw [h]; rfl
theorem cut_back {c : UInt8} {l : List UInt8} (h : has c l = true) : cutA c l ++ c :: cutB c l = l := by
  rw [cutA_yes h, cutB_yes h]; exact ((has_parts c l h).1).symm
theorem cutA_free {c : UInt8} (l : List UInt8) : has c (cutA c l) = false := by
  cases h : has c l with
  | true => rw [cutA_yes h]; exact (has_parts c l h).2
  | false => rw [cut_none h]; exact h

/-- A place's text, as bytes. -/
def pbytes (x : Pl) : List UInt8 := (ptext x).data.toList
theorem append_bytes (a b : ByteArray) : (a ++ b).data.toList = a.data.toList ++ b.data.toList := by simp [ByteArray.data_append]
theorem pbytes_ok {x : Pl} (h : okP x = true) : pbytes x = x.1.data.toList ++ 45 :: (decDigits x.2.1.toNat ++ 45 :: decDigits x.2.2.toNat) := by
  unfold pbytes ptext
  rw [if_pos h]
  simp only [append_bytes]
  simp
theorem dec_free (c : UInt8) (hc : dig c = false) (u : Nat) : has c (decDigits u) = false := has_of_all hc (all_dec u)
theorem pbytes_free {x : Pl} (h : okP x = true) {c : UInt8} (h1 : nameB c = false) (h2 : dig c = false) (h3 : c ≠ 45) : has c (pbytes x) = false := by
  rw [pbytes_ok h, has_append, has_cons, has_append, has_cons, has_name h1 (okP_bounds h).1, dec_free c h2, dec_free c h2]
  have : ((45 : UInt8) == c) = false := by
    cases e : ((45 : UInt8) == c) with
    | false => rfl
    | true => exact absurd (beq_iff_eq.1 e).symm h3
  simp [this]
/-- A place is read as it was written. -/
theorem readP_pbytes {x : Pl} (h : okP x = true) : readP (pbytes x) = (x, 0) := by
  obtain ⟨hn, a1, a2, a3, a4⟩ := okP_bounds h
  obtain ⟨q1, q2, q3⟩ := cut_at (c := 45) (decDigits x.2.1.toNat ++ 45 :: decDigits x.2.2.toNat) (has_name (by decide) hn)
  obtain ⟨r1, r2, r3⟩ := cut_at (c := 45) (decDigits x.2.2.toNat) (dec_free 45 (by decide) x.2.1.toNat)
  have n1 := isNum_dec 4 x.2.1.toNat (by decide) (by omega)
  have n2 := isNum_dec 4 x.2.2.toNat (by decide) (by omega)
  have e1 : plNum (pbytes x) = true := by
    unfold plNum
    rw [pbytes_ok h, q3, r2, r3, n1, n2]; rfl
  have e2 : plOf (pbytes x) = x := by
    unfold plOf
    rw [pbytes_ok h, q2, q3, r2, r3, numR_yes n1, numR_yes n2, numVal_dec, numVal_dec]
    obtain ⟨a, r, b⟩ := x
    simp only at a1 a2 a3 a4 ⊢
    rw [show ((r.toNat : Nat) : Int) = r by omega, show ((b.toNat : Nat) : Int) = b by omega]
  unfold readP
  rw [if_pos e1, e2, if_pos ((okP_err x).1 h)]
/-- A place is written as it was read. -/
theorem pbytes_readP {l : List UInt8} {x : Pl} (h : readP l = (x, 0)) : okP x = true ∧ pbytes x = l := by
  unfold readP at h
  by_cases h1 : plNum l = true
  · rw [if_pos h1] at h
    by_cases h2 : placeErr (plOf l) = 0
    · rw [if_pos h2] at h
      have e : plOf l = x := congrArg Prod.fst h
      have hok : okP x = true := by rw [← e]; exact (okP_err _).2 h2
      refine ⟨hok, ?_⟩
      have hm : isNum 4 (cutA 45 (cutB 45 l)) = true ∧ isNum 4 (cutB 45 (cutB 45 l)) = true := by unfold plNum at h1; simpa using h1
      have hz1 : has 45 (cutB 45 l) = true := by
        cases hh : has 45 (cutB 45 l) with
        | true => rfl
        | false => exact absurd (cutB_no hh) (isNum_ne hm.2)
      have hz2 : has 45 l = true := by
        cases hh : has 45 l with
        | true => rfl
        | false => rw [cutB_no hh] at hz1; cases hz1
      rw [pbytes_ok hok, ← e]
      unfold plOf
      simp only
      rw [numR_yes hm.1, numR_yes hm.2]
      simp only [Int.toNat_natCast]
      rw [dec_isNum hm.1, dec_isNum hm.2, cut_back hz1]
      simpa using cut_back hz2
    · rw [if_neg h2] at h
      exact absurd (congrArg Prod.snd h) h2
  · rw [if_neg h1] at h
    have := congrArg Prod.snd h
    simp at this

/-! ### a line -/
def lineB (l : Ln) : List UInt8 := pbytes l.1 ++ 32 :: (l.2.1.data.toList ++ 32 :: decDigits l.2.2.toNat)
def textB (m : List Ln) : List UInt8 := m.flatMap fun l => lineB l ++ [10]
def wordsK (l : List UInt8) : Bool := has 32 l && has 32 (cutB 32 l)
def numK (l : List UInt8) : Bool := wordsK l && isNum 13 (cutB 32 (cutB 32 l))
def zeroN : Ln := (zeroP, ⟨#[]⟩, 0)
def lnOf (l : List UInt8) : Ln := ((readP (cutA 32 l)).1, ⟨(cutA 32 (cutB 32 l)).toArray⟩, numVal (cutB 32 (cutB 32 l)))
def lnErr (l : List UInt8) : Nat := if numK l then (if (readP (cutA 32 l)).2 = 0 then (if isName (cutA 32 (cutB 32 l)) then (if numW (numVal (cutB 32 (cutB 32 l))) then 0 else 2) else 5) else (readP (cutA 32 l)).2) else 1
/-- A line that is read: it, or an error's number. -/
def readN (l : List UInt8) : Ln × Nat := if lnErr l = 0 then (lnOf l, 0) else (zeroN, lnErr l)
theorem lnErr_le (l : List UInt8) : lnErr l ≤ 12 := by
  unfold lnErr
  have : (readP (cutA 32 l)).2 ≤ 12 := by
    unfold readP
    have := placeErr_le (plOf (cutA 32 l))
    split
    · split
      · show 0 ≤ 12; omega
      · exact this
    · show 1 ≤ 12; omega
  repeat' split
  all_goals omega
/-- What a line that is well keeps. -/
def okN (l : Ln) : Prop := okP l.1 = true ∧ isName l.2.1.data.toList = true ∧ 1 ≤ l.2.2 ∧ l.2.2 ≤ 1099511627776
theorem lineB_free {l : Ln} (h : okN l) : has 10 (lineB l) = false := by
  unfold lineB
  rw [has_append, has_cons, has_append, has_cons, pbytes_free h.1 (by decide) (by decide) (by decide), has_name (by decide) h.2.1, dec_free 10 (by decide)]
  rfl
/-- A line is read as it was written. -/
theorem readN_lineB {l : Ln} (h : okN l) : readN (lineB l) = (l, 0) := by
  obtain ⟨h1, h2, h3, h4⟩ := h
  obtain ⟨q1, q2, q3⟩ := cut_at (c := 32) (l.2.1.data.toList ++ 32 :: decDigits l.2.2.toNat) (pbytes_free h1 (by decide) (by decide) (by decide))
  obtain ⟨r1, r2, r3⟩ := cut_at (c := 32) (decDigits l.2.2.toNat) (has_name (c := 32) (by decide) h2)
  have n1 := isNum_dec 13 l.2.2.toNat (by decide) (by omega)
  have e0 : lnErr (lineB l) = 0 := by
    unfold lnErr numK wordsK lineB
    rw [q1, q2, q3, r1, r2, r3, n1, readP_pbytes h1, numVal_dec]
    simp only [Bool.and_self, if_true]
    rw [if_pos h2, if_pos ((numW_iff _).2 (by omega))]
  have e1 : lnOf (lineB l) = l := by
    unfold lnOf lineB
    rw [q2, q3, r2, r3, readP_pbytes h1, numVal_dec]
    obtain ⟨p, c, n⟩ := l
    simp only at h3 h4 ⊢
    rw [show ((n.toNat : Nat) : Int) = n by omega]
  unfold readN
  rw [if_pos e0, e1]
/-- A line is written as it was read. -/
theorem lnOf_facts {l : List UInt8} (h : lnErr l = 0) : okN (lnOf l) ∧ lineB (lnOf l) = l := by
  unfold lnErr at h
  by_cases h1 : numK l = true
  · rw [if_pos h1] at h
    by_cases h2 : (readP (cutA 32 l)).2 = 0
    · rw [if_pos h2] at h
      by_cases h3 : isName (cutA 32 (cutB 32 l)) = true
      · rw [if_pos h3] at h
        by_cases h4 : numW (numVal (cutB 32 (cutB 32 l))) = true
        · unfold numK wordsK at h1
          simp only [Bool.and_eq_true] at h1
          obtain ⟨p1, p2⟩ := pbytes_readP (l := cutA 32 l) (x := (readP (cutA 32 l)).1) (by rw [← h2])
          refine ⟨⟨p1, by simpa [lnOf] using h3, ((numW_iff _).1 h4).1, ((numW_iff _).1 h4).2⟩, ?_⟩
          unfold lineB lnOf
          simp only [Int.toNat_natCast]
          rw [p2, dec_isNum h1.2, cut_back h1.1.2]
          exact cut_back h1.1.1
        · rw [if_neg h4] at h; omega
      · rw [if_neg h3] at h; omega
    · rw [if_neg h2] at h; exact absurd h h2
  · rw [if_neg h1] at h; omega

/-! ### a stock -/
/-- One line more: the stock with it, or an error's number. -/
def behind (m : List Ln) (x : Ln) : Bool := match m.getLast? with | some l => aheadN l x | none => true
def stepE (m : List Ln) (l : List UInt8) : Nat := if lnErr l = 0 then (if behind m (lnOf l) then putE m (lnOf l).1 (lnOf l).2.1 (lnOf l).2.2 else 10) else lnErr l
def stepM (m : List Ln) (l : List UInt8) : List Ln := putL m (lnOf l).1 (lnOf l).2.1 (lnOf l).2.2
/-- The lines of a text, from the i-th on: the stock's lines, an error's number, its place. -/
def readS (m : List Ln) (i : Nat) : List (List UInt8) → List Ln × Nat × Nat
  | [] => (m, 0, 0)
  | [l] => if l = [] then (m, 0, 0) else ([], 1, i)
  | l :: r => if stepE m l = 0 then readS (stepM m l) (i + 1) r else ([], stepE m l, i)
theorem readS_last (m : List Ln) (i : Nat) (l : List UInt8) : readS m i [l] = if l = [] then (m, 0, 0) else ([], 1, i) := by unfold readS; rfl
theorem readS_step (m : List Ln) (i : Nat) (l : List UInt8) {r : List (List UInt8)} (h : r ≠ []) : readS m i (l :: r) = if stepE m l = 0 then readS (stepM m l) (i + 1) r else ([], stepE m l, i) := by
  cases r with
  | nil => exact absurd rfl h
  | cons a r => rw [readS]; simp
theorem stepE_le (m : List Ln) (l : List UInt8) : stepE m l ≤ 12 := by
  unfold stepE
  have h1 := lnErr_le l
  have h2 := putE_le m (lnOf l).1 (lnOf l).2.1 (lnOf l).2.2
  repeat' split
  all_goals omega
/-- A line that comes behind all of a stock is laid at its end. -/
theorem behind_all {m : List Ln} (hs : Sorted m) {x : Ln} (h : behind m x = true) : ∀ l ∈ m, aheadN l x = true := by
  unfold behind at h
  cases hm : m.getLast? with
  | none => rw [List.getLast?_eq_none_iff] at hm; subst hm; simp
  | some z =>
    rw [hm] at h
    simp only at h
    obtain ⟨ys, rfl⟩ := List.getLast?_eq_some_iff.1 hm
    intro l hl
    rcases List.mem_append.1 hl with hl | hl
    · unfold Sorted at hs
      rw [List.pairwise_append] at hs
      exact aheadK_trans (hs.2.2 l hl z (by simp)) h
    · obtain rfl : l = z := by simpa using hl
      exact h
theorem insN_last : ∀ {m : List Ln} {x : Ln}, (∀ l ∈ m, aheadN l x = true) → insN x m = m ++ [x]
  | [], x, _ => rfl
  | l :: r, x, h => by
    unfold insN
    have := aheadK_asymm (h l (by simp))
    rw [← aheadN_key] at this
    rw [if_neg (by rw [this]; decide), insN_last fun y hy => h y (by simp [hy])]; rfl
theorem put_last {m : List Ln} (hs : Sorted m) {x : Ln} (h : behind m x = true) (h0 : putE m x.1 x.2.1 x.2.2 = 0) : putL m x.1 x.2.1 x.2.2 = m ++ [x] := by
  have hall := behind_all hs h
  have hne : ∀ l ∈ m, keyL l ≠ (x.1, x.2.1) := fun l hl => aheadK_ne (hall l hl)
  obtain ⟨_, _, h3, _, _⟩ := putE_zero h0
  unfold putL
  rw [if_pos h0, atL_none hne]
  unfold withL
  rw [if_neg (by omega), without_same hne]
  simp only [Int.zero_add]
  exact insN_last hall
theorem stepE_zero {m : List Ln} {l : List UInt8} (h : stepE m l = 0) : lnErr l = 0 ∧ behind m (lnOf l) = true ∧ putE m (lnOf l).1 (lnOf l).2.1 (lnOf l).2.2 = 0 := by
  unfold stepE at h
  by_cases h1 : lnErr l = 0
  · rw [if_pos h1] at h
    by_cases h2 : behind m (lnOf l) = true
    · rw [if_pos h2] at h; exact ⟨h1, h2, h⟩
    · rw [if_neg h2] at h; omega
  · rw [if_neg h1] at h; exact absurd h h1
theorem stepM_last {m : List Ln} (hs : Sorted m) {l : List UInt8} (h : stepE m l = 0) : stepM m l = m ++ [lnOf l] := by
  obtain ⟨h1, h2, h3⟩ := stepE_zero h
  exact put_last hs h2 h3
theorem textB_append (m m' : List Ln) : textB (m ++ m') = textB m ++ textB m' := by unfold textB; rw [List.flatMap_append]
theorem textB_one (l : Ln) : textB [l] = lineB l ++ [10] := by unfold textB; simp
theorem join_split (c : UInt8) : ∀ (n : Nat) (l : List UInt8), l.length ≤ n → has c l = true → l = pre c l ++ c :: post c l := fun _ l _ h => (has_parts c l h).1
/-- A text that was read is written as it was. -/
theorem readS_text : ∀ (n : Nat) (s : List UInt8) (m : List Ln) (i : Nat), s.length ≤ n → Wf m → (readS m i (splitL 10 s)).2.1 = 0 → Wf (readS m i (splitL 10 s)).1 ∧ textB (readS m i (splitL 10 s)).1 = textB m ++ s
  | n, s, m, i, hn, hw, h => by
    cases hh : has 10 s with
    | false =>
      rw [split_none hh, readS_last] at h ⊢
      by_cases h0 : s = []
      · subst h0; simp [hw]
      · rw [if_neg h0] at h; simp at h
    | true =>
      rw [split_some hh, readS_step _ _ _ (split_pos 10 _)] at h ⊢
      by_cases h0 : stepE m (pre 10 s) = 0
      · rw [if_pos h0] at h ⊢
        have hlt := pre_length_lt 10 s hh
        have hpl : (post 10 s).length < s.length := by rw [← drop_pre, List.length_drop]; omega
        obtain ⟨h1, h2, h3⟩ := stepE_zero h0
        have hw' : Wf (stepM m (pre 10 s)) := hw.put _ _ _
        cases n with
        | zero => omega
        | succ n =>
          obtain ⟨r1, r2⟩ := readS_text n (post 10 s) (stepM m (pre 10 s)) (i + 1) (by omega) hw' h
          refine ⟨r1, ?_⟩
          rw [r2, stepM_last hw.sorted h0, textB_append, textB_one, (lnOf_facts h1).2, List.append_assoc, List.append_assoc]
          congr 1
          simpa using ((has_parts 10 s hh).1).symm
      · rw [if_neg h0] at h
        exact absurd h h0
/-- A stock that was written is read as it was. -/
theorem readS_back : ∀ (r m : List Ln) (i : Nat), Wf (m ++ r) → readS m i (splitL 10 (textB r)) = (m ++ r, 0, 0)
  | [], m, i, _ => by
    have : textB [] = [] := rfl
    rw [this, split_none rfl, readS_last]; simp
  | x :: r, m, i, hw => by
    have e : textB (x :: r) = lineB x ++ 10 :: textB r := by unfold textB; simp
    have hx := hw.ok x (by simp)
    have hok : okN x := ⟨hx.1, hx.2.1, hx.2.2, hw.qty (by simp)⟩
    obtain ⟨q1, q2, q3⟩ := pre_append 10 (lineB x) (textB r) (lineB_free hok)
    have hr := readN_lineB hok
    unfold readN at hr
    have e0 : lnErr (lineB x) = 0 := by
      by_cases h : lnErr (lineB x) = 0
      · exact h
      · rw [if_neg h] at hr; exact absurd (congrArg Prod.snd hr) h
    rw [if_pos e0] at hr
    have e1 : lnOf (lineB x) = x := congrArg Prod.fst hr
    have hs := hw.sorted
    unfold Sorted at hs
    rw [List.pairwise_append] at hs
    have hm : Sorted m := hs.1
    have hall : ∀ l ∈ m, aheadN l x = true := fun l hl => hs.2.2 l hl x (by simp)
    have hbe : behind m x = true := by
      unfold behind
      cases hg : m.getLast? with
      | none => rfl
      | some z => exact hall z (List.mem_of_getLast? hg)
    have hne : ∀ l ∈ m, keyL l ≠ (x.1, x.2.1) := fun l hl => aheadK_ne (hall l hl)
    have hmost := hw.most x.2.1
    have hlen := hw.len
    have hpos : ∀ c, 0 ≤ ofL r c := fun c => ofL_nonneg (fun l hl => hw.pos l (by simp [hl])) c
    rw [ofL_append, ofL_cons, if_pos rfl] at hmost
    simp only [List.length_append, List.length_cons] at hlen
    have hput : putE m x.1 x.2.1 x.2.2 = 0 := by
      have := hpos x.2.1
      have hq := hok.2.2
      unfold putE
      rw [if_pos ((okP_err _).1 hok.1), if_pos hok.2.1, if_pos (by simp only [Bool.and_eq_true, decide_eq_true_eq, numW_iff]; omega), if_neg (by omega)]
    have hst : stepE m (lineB x) = 0 := by unfold stepE; rw [if_pos e0, e1, if_pos hbe, hput]
    have hsm : stepM m (lineB x) = m ++ [x] := by rw [stepM_last hm hst, e1]
    rw [e, split_some q3, q1, q2, readS_step _ _ _ (split_pos 10 _), if_pos hst, hsm, readS_back r (m ++ [x]) (i + 1) (by simpa using hw)]
    simp
end Go.Proofs.YtgdhfipbbijngaaGreatDoor
namespace Go.Proofs.YtgdhfipbbijngaaGreatDoor
open Go.Lib Go.Sort

/-- A lot: its ID, its code, its last day, its cost. -/
abbrev Lo := ByteArray × ByteArray × Int × Int
def cmpL (x y : Lo) : Int := or2 (compareInt x.2.2.1 y.2.2.1) (cmpZ x.1 y.1)
/-- A lot is sooner than another one. -/
def soonL (x y : Lo) : Bool := decide (cmpL x y < 0)
/-- .. in plain words. -/
def soonW (x y : Lo) : Prop := x.2.2.1 < y.2.2.1 ∨ (x.2.2.1 = y.2.2.1 ∧ zLt x.1 y.1 = true)
theorem soonL_iff (x y : Lo) : soonL x y = true ↔ soonW x y := by
  obtain ⟨a, c, u, k⟩ := x
  obtain ⟨a', c', u', k'⟩ := y
  unfold soonL soonW cmpL or2
  simp only [decide_eq_true_eq]
  rcases cmpI_cases u u' with ⟨k1, k2⟩ | ⟨k1, k2⟩ | ⟨k1, k2⟩
  · rw [k2]; simp [k1]
  · rw [k2]; simp; omega
  · rw [k2]; subst k1
    rcases cmpZ_cases a a' with ⟨h1, h2, h3, h4⟩ | ⟨h1, h2, h3, h4⟩ | ⟨h1, h2, h3, h4⟩ <;> simp [h4, h1]
theorem soonL_no (x y : Lo) : soonL x y = false ↔ ¬ soonW x y := by rw [← soonL_iff]; simp
theorem swoL : SWO soonL where
  irrefl x := (soonL_no x x).2 (by unfold soonW; rw [zLt_irrefl]; simp)
  trans x y z h1 h2 := by
    rw [soonL_iff] at *
    unfold soonW at *
    rcases h1 with h1 | ⟨e1, h1⟩
    · rcases h2 with h2 | ⟨e2, h2⟩
      · exact Or.inl (by omega)
      · exact Or.inl (by omega)
    · rcases h2 with h2 | ⟨e2, h2⟩
      · exact Or.inl (by omega)
      · exact Or.inr ⟨by omega, zLt_trans h1 h2⟩
  ntrans x y z h1 h2 := by
    rw [soonL_no] at *
    unfold soonW at *
    intro h
    rcases h with h | ⟨e, h⟩
    · by_cases hxy : x.2.2.1 < y.2.2.1
      · exact h1 (Or.inl hxy)
      · exact h2 (Or.inl (by omega))
    · rcases Int.lt_trichotomy x.2.2.1 y.2.2.1 with k | k | k
      · exact h1 (Or.inl k)
      · rcases cmpZ_cases x.1 y.1 with ⟨q1, q2, q3, q4⟩ | ⟨q1, q2, q3, q4⟩ | ⟨q1, q2, q3, q4⟩
        · exact h1 (Or.inr ⟨k, q1⟩)
        · exact h2 (Or.inr ⟨by omega, zLt_trans q2 h⟩)
        · rw [q3] at h; exact h2 (Or.inr ⟨by omega, h⟩)
      · exact h2 (Or.inl (by omega))
/-- The number of an error of a lot. -/
def wellL (u k : Int) : Bool := decide (0 ≤ u) && decide (u ≤ 100000) && (decide (0 ≤ k) && decide (k ≤ 1048576))
def namesL (x : Lo) : Bool := isName x.1.data.toList && isName x.2.1.data.toList
def lotErr (x : Lo) : Nat := if namesL x then (if wellL x.2.2.1 x.2.2.2 then 0 else 2) else 5
theorem lotErr_le (x : Lo) : lotErr x ≤ 12 := by
  unfold lotErr; split
  · split <;> decide
  · decide
def okL (x : Lo) : Bool := namesL x && wellL x.2.2.1 x.2.2.2
theorem okL_err (x : Lo) : okL x = true ↔ lotErr x = 0 := by
  unfold okL lotErr
  cases namesL x <;> cases wellL x.2.2.1 x.2.2.2 <;> simp
theorem okL_bounds {x : Lo} (h : okL x = true) : isName x.1.data.toList = true ∧ isName x.2.1.data.toList = true ∧ 0 ≤ x.2.2.1 ∧ x.2.2.1 ≤ 100000 ∧ 0 ≤ x.2.2.2 ∧ x.2.2.2 ≤ 1048576 := by
  unfold okL namesL wellL at h
  simp at h
  exact ⟨h.1.1, h.1.2, h.2.1.1, h.2.1.2, h.2.2.1, h.2.2.2⟩
end Go.Proofs.YtgdhfipbbijngaaGreatDoor
namespace Go.Proofs.YtgdhfipbbijngaaGreatDoor
open Go.RowKit Go.Lib Go.Sort

/-- A lot's cells, a lot as a value. -/
def encL (x : Lo) : List Value := [.string x.1, .string x.2.1, .int .i64 x.2.2.1, .int .i64 x.2.2.2]
abbrev agL (x : Lo) : Value := .agg #[.string x.1, .string x.2.1, .int .i64 x.2.2.1, .int .i64 x.2.2.2]
/-- A lot lies in a block of its own. -/
structure BoxL (n : Nat) (x : Lo) (W : World) : Prop where
  c0 : W.cell? ⟨n, 0, none⟩ = some (.string x.1)
  c1 : W.cell? ⟨n, 1, none⟩ = some (.string x.2.1)
  c2 : W.cell? ⟨n, 2, none⟩ = some (.int .i64 x.2.2.1)
  c3 : W.cell? ⟨n, 3, none⟩ = some (.int .i64 x.2.2.2)
theorem BoxL.below {n : Nat} {x : Lo} {W W' : World} (h : BoxL n x W) (hb : Below W.heap.size W W') : BoxL n x W' where
  c0 := by rw [hb.cell (p := ⟨n, 0, none⟩) (cell_lt h.c0)]; exact h.c0
  c1 := by rw [hb.cell (p := ⟨n, 1, none⟩) (cell_lt h.c1)]; exact h.c1
  c2 := by rw [hb.cell (p := ⟨n, 2, none⟩) (cell_lt h.c2)]; exact h.c2
  c3 := by rw [hb.cell (p := ⟨n, 3, none⟩) (cell_lt h.c3)]; exact h.c3
abbrev boxL (w : World) (x : Lo) : World := w.alloc (.cells #[.string x.1, .string x.2.1, .int .i64 x.2.2.1, .int .i64 x.2.2.2] 25)
theorem BoxL.new (w : World) (x : Lo) (n : Nat) (hn : n = w.heap.size) : BoxL n x (boxL w x) where
  c0 := by rw [World.cell?_alloc_at _ _ _ _ hn]; rfl
  c1 := by rw [World.cell?_alloc_at _ _ _ _ hn]; rfl
  c2 := by rw [World.cell?_alloc_at _ _ _ _ hn]; rfl
  c3 := by rw [World.cell?_alloc_at _ _ _ _ hn]; rfl
theorem boxL_below (w : World) (x : Lo) : Below w.heap.size w (boxL w x) := (Below.refl _ w).alloc (Nat.le_refl _) _
/-- The world of two boxed parameters. -/
abbrev boxL2 (w : World) (x y : Lo) : World := boxL (boxL w x) y
theorem boxL2_below (w : World) (x y : Lo) : Below w.heap.size w (boxL2 w x y) := ((Below.refl _ w).alloc (Nat.le_refl _) _).alloc (by simp) _
theorem boxL2_first (w : World) (x y : Lo) : BoxL w.heap.size x (boxL2 w x y) := (BoxL.new w x _ rfl).below ((Below.refl _ _).alloc (Nat.le_refl _) _)
theorem boxL2_second (w : World) (x y : Lo) : BoxL (w.heap.size + 1) y (boxL2 w x y) := BoxL.new _ y _ (by simp)

end Go.Proofs.YtgdhfipbbijngaaGreatDoor
namespace Go.Proofs.YtgdhfipbbijngaaGreatDoor
open Go.RowKit Go.Lib Go.Sort

/-- Where a lot's numbers are not well. -/
theorem not_well {u k : Int} (h : wellL u k = false) : (u < 0) ∨ (0 ≤ u ∧ 100000 < u) ∨ (0 ≤ u ∧ u ≤ 100000 ∧ k < 0) ∨ (0 ≤ u ∧ u ≤ 100000 ∧ 0 ≤ k ∧ 1048576 < k) := by
  unfold wellL at h; simp at h; omega
theorem is_well {u k : Int} (h : wellL u k = true) : 0 ≤ u ∧ u ≤ 100000 ∧ 0 ≤ k ∧ k ≤ 1048576 := by
  unfold wellL at h; simp at h; omega
set_option maxHeartbeats 1000000 in
/-- lot.Check. -/
theorem lcheck_any (x : Lo) (w : World) (s : Nat → Addr) (hz : x.1.size ≤ maxLen) (hz2 : x.2.1.size ≤ maxLen) (hs : Two w s) :
    Calls Tryz.prog 41 #[agL x] w fun e w' => e = .returned (errP s (lotErr x)) ∧ Below w.heap.size w w' := by
  obtain ⟨a, c, u, k⟩ := x
  unfold agL
  simp only at hz hz2 ⊢
  have hB : ∀ o, Below w.heap.size w (w.alloc o) := fun o => (Below.refl _ w).alloc (Nat.le_refl _) _
  have hs2 := hs.below (hB (.cells #[.string a, .string c, .int .i64 u, .int .i64 k] 25))
  obtain ⟨c1, c2⟩ := hs2
  have hn : ∀ w, Calls Tryz.prog 57 #[.string a] w _ := fun w => name_any a w hz
  have hm : ∀ w, Calls Tryz.prog 57 #[.string c] w _ := fun w => name_any c w hz2
  clear hs hz hz2
  cases h1 : isName a.data.toList with
  | false =>
    rw [h1] at hn
    have HE : Hid (errP s (lotErr (a, c, u, k)) = err (s 4)) := by
      show _ = _
      unfold lotErr namesL; simp only [h1]; rfl
    clear hm
    go_enter Tryz.func41, Tryz.ntmps41
    go_wp2_with (go_at_call 57; refine (hn _).mono ?_; rintro e w1 ⟨rfl, rfl⟩)
    go_ret
    exact ⟨by rw [HE.out]; rfl, hB _⟩
  | true =>
    rw [h1] at hn
    cases h2 : isName c.data.toList with
    | false =>
      rw [h2] at hm
      have HE : Hid (errP s (lotErr (a, c, u, k)) = err (s 4)) := by
        show _ = _
        unfold lotErr namesL; simp only [h1, h2]; rfl
      go_enter Tryz.func41, Tryz.ntmps41
      go_wp2_with (first | (go_at_call_of 57 (Value.string a); refine (hn _).mono ?_; rintro e w1 ⟨rfl, rfl⟩) | (go_at_call_of 57 (Value.string c); refine (hm _).mono ?_; rintro e w2 ⟨rfl, rfl⟩))
      go_ret
      exact ⟨by rw [HE.out]; rfl, hB _⟩
    | true =>
      rw [h2] at hm
      cases h3 : wellL u k with
      | true =>
        have HE : Hid (errP s (lotErr (a, c, u, k)) = .nilIface) := by
          show _ = _
          unfold lotErr namesL; simp only [h1, h2, h3]; rfl
        obtain ⟨q1, q2, q3, q4⟩ := is_well h3
        clear h3
        go_enter Tryz.func41, Tryz.ntmps41
        go_wp2_with (first | (go_at_call_of 57 (Value.string a); refine (hn _).mono ?_; rintro e w1 ⟨rfl, rfl⟩) | (go_at_call_of 57 (Value.string c); refine (hm _).mono ?_; rintro e w2 ⟨rfl, rfl⟩))
        go_ret
        exact ⟨by rw [HE.out]; rfl, hB _⟩
      | false =>
        have HE : Hid (errP s (lotErr (a, c, u, k)) = err (s 1)) := by
          show _ = _
          unfold lotErr namesL; simp only [h1, h2, h3]; rfl
        rcases not_well h3 with q1 | ⟨q1, q2⟩ | ⟨q1, q2, q3⟩ | ⟨q1, q2, q3, q4⟩
        all_goals
          clear h3
          go_enter Tryz.func41, Tryz.ntmps41
          go_wp2_with (first | (go_at_call_of 57 (Value.string a); refine (hn _).mono ?_; rintro e w1 ⟨rfl, rfl⟩) | (go_at_call_of 57 (Value.string c); refine (hm _).mono ?_; rintro e w2 ⟨rfl, rfl⟩))
          go_ret
          exact ⟨by rw [HE.out]; rfl, hB _⟩
set_option maxHeartbeats 1000000 in
/-- LotError. -/
theorem lotError_any (x : Lo) (w : World) (hz : x.1.size ≤ maxLen) (hz2 : x.2.1.size ≤ maxLen) :
    Calls Tryz.prog 25 #[agL x] w fun e w' => e = .returned (.int .i64 (lotErr x)) ∧ Below w.heap.size w w' := by
  obtain ⟨a, c, u, k⟩ := x
  unfold agL
  simp only at hz hz2 ⊢
  have hB : ∀ o, Below w.heap.size w (w.alloc o) := fun o => (Below.refl _ w).alloc (Nat.le_refl _) _
  have hn : ∀ w, Calls Tryz.prog 26 #[.string a] w _ := fun w => isName_any a w hz
  have hm : ∀ w, Calls Tryz.prog 26 #[.string c] w _ := fun w => isName_any c w hz2
  clear hz hz2
  cases h1 : isName a.data.toList with
  | false =>
    rw [h1] at hn
    have HE : Hid (lotErr (a, c, u, k) = 5) := by
      show _ = _
      unfold lotErr namesL; simp only [h1]; rfl
    generalize isName c.data.toList = bc at hm
    go_enter Tryz.func25, Tryz.ntmps25
    go_wp2_with (first | (go_at_call_of 26 (Value.string a); refine (hn _).mono ?_; rintro e w1 ⟨rfl, rfl⟩) | (go_at_call_of 26 (Value.string c); refine (hm _).mono ?_; rintro e w2 ⟨rfl, rfl⟩))
    go_ret
    exact ⟨by rw [HE.out]; rfl, hB _⟩
  | true =>
    rw [h1] at hn
    cases h2 : isName c.data.toList with
    | false =>
      rw [h2] at hm
      have HE : Hid (lotErr (a, c, u, k) = 5) := by
        show _ = _
        unfold lotErr namesL; simp only [h1, h2]; rfl
      go_enter Tryz.func25, Tryz.ntmps25
      go_wp2_with (first | (go_at_call_of 26 (Value.string a); refine (hn _).mono ?_; rintro e w1 ⟨rfl, rfl⟩) | (go_at_call_of 26 (Value.string c); refine (hm _).mono ?_; rintro e w2 ⟨rfl, rfl⟩))
      go_ret
      exact ⟨by rw [HE.out]; rfl, hB _⟩
    | true =>
      rw [h2] at hm
      cases h3 : wellL u k with
      | true =>
        have HE : Hid (lotErr (a, c, u, k) = 0) := by
          show _ = _
          unfold lotErr namesL; simp only [h1, h2, h3]; rfl
        obtain ⟨q1, q2, q3, q4⟩ := is_well h3
        clear h3
        go_enter Tryz.func25, Tryz.ntmps25
        go_wp2_with (first | (go_at_call_of 26 (Value.string a); refine (hn _).mono ?_; rintro e w1 ⟨rfl, rfl⟩) | (go_at_call_of 26 (Value.string c); refine (hm _).mono ?_; rintro e w2 ⟨rfl, rfl⟩))
        go_ret
        exact ⟨by rw [HE.out]; rfl, hB _⟩
      | false =>
        have HE : Hid (lotErr (a, c, u, k) = 2) := by
          show _ = _
          unfold lotErr namesL; simp only [h1, h2, h3]; rfl
        rcases not_well h3 with q1 | ⟨q1, q2⟩ | ⟨q1, q2, q3⟩ | ⟨q1, q2, q3, q4⟩
        all_goals
          clear h3
          go_enter Tryz.func25, Tryz.ntmps25
          go_wp2_with (first | (go_at_call_of 26 (Value.string a); refine (hn _).mono ?_; rintro e w1 ⟨rfl, rfl⟩) | (go_at_call_of 26 (Value.string c); refine (hm _).mono ?_; rintro e w2 ⟨rfl, rfl⟩))
          go_ret
          exact ⟨by rw [HE.out]; rfl, hB _⟩

/-- A lot as a text. -/
def ltext (x : Lo) : ByteArray := if okL x then (((((x.1 ++ ⟨#[32]⟩) ++ x.2.1) ++ ⟨#[32]⟩) ++ ⟨(decDigits x.2.2.1.toNat).toArray⟩) ++ ⟨#[32]⟩) ++ ⟨(decDigits x.2.2.2.toNat).toArray⟩ else ⟨#[]⟩
/-- Six joinings, one behind the other. -/
theorem joins6 (a c d1 d2 : ByteArray) (ha : a.size ≤ 8) (hc : c.size ≤ 8) (h1 : d1.size ≤ 13) (h2 : d2.size ≤ 13) : ∃ t1 t2 t3 t4 t5 : ByteArray,
    (∀ w, (Op.stringOp .add a ⟨#[32]⟩).run Tryz.prog w = .ok (.string t1) w) ∧ (∀ w, (Op.stringOp .add t1 c).run Tryz.prog w = .ok (.string t2) w) ∧ (∀ w, (Op.stringOp .add t2 ⟨#[32]⟩).run Tryz.prog w = .ok (.string t3) w) ∧
    (∀ w, (Op.stringOp .add t3 d1).run Tryz.prog w = .ok (.string t4) w) ∧ (∀ w, (Op.stringOp .add t4 ⟨#[32]⟩).run Tryz.prog w = .ok (.string t5) w) ∧
    (∀ w, (Op.stringOp .add t5 d2).run Tryz.prog w = .ok (.string ((((((a ++ ⟨#[32]⟩) ++ c) ++ ⟨#[32]⟩) ++ d1) ++ ⟨#[32]⟩) ++ d2)) w) := by
  have e : (⟨#[32]⟩ : ByteArray).size = 1 := rfl
  refine ⟨_, _, _, _, _, fun w => run_string_add_sum w _ _ ?_, fun w => run_string_add_sum w _ _ ?_, fun w => run_string_add_sum w _ _ ?_, fun w => run_string_add_sum w _ _ ?_, fun w => run_string_add_sum w _ _ ?_, fun w => run_string_add_sum w _ _ ?_⟩
  all_goals
    simp only [ByteArray.size_append, e]
    omega
set_option maxRecDepth 100000 in
set_option maxHeartbeats 4000000 in
/-- lot.Text at a lot that is well. -/
theorem ltext_in (x : Lo) (w : World) (s : Nat → Addr) (hz : x.1.size ≤ maxLen) (hz2 : x.2.1.size ≤ maxLen) (hs : Two w s) (hp : Pow w) (h : okL x = true) :
    Calls Tryz.prog 29 #[agL x] w fun e w' => e = .returned (.string (ltext x)) ∧ Below w.heap.size w w' := by
  have hc := fun w hs => lcheck_any x w s hz hz2 hs
  rw [(okL_err x).1 h, errP_zero] at hc
  obtain ⟨hn, hn', a1, a2, a3, a4⟩ := okL_bounds h
  have ha := name_short hn
  have hcs := name_short hn'
  unfold ltext
  rw [if_pos h]
  clear h hn hn'
  obtain ⟨a, c, u, k⟩ := x
  unfold agL at *
  simp only at *
  have hB : ∀ o, Below w.heap.size w (w.alloc o) := fun o => (Below.refl _ w).alloc (Nat.le_refl _) _
  have hl1 := dec_size u.toNat (by omega)
  have hl2 := dec_size k.toNat (by omega)
  have hI1 := fun w1 (hb : Below w.heap.size w w1) => itoa_any u (by omega) (by omega) w1 (hp.below hb)
  have hI2 := fun w1 (hb : Below w.heap.size w w1) => itoa_any k (by omega) (by omega) w1 (hp.below hb)
  have HC : Hid (Calls Tryz.prog 41 #[.agg #[.string a, .string c, .int .i64 u, .int .i64 k]] (w.alloc (.cells #[.string a, .string c, .int .i64 u, .int .i64 k] 25)) _) := hc _ (hs.below (hB _))
  have HK : BoxL w.heap.size (a, c, u, k) (w.alloc (.cells #[.string a, .string c, .int .i64 u, .int .i64 k] 25)) := BoxL.new w (a, c, u, k) _ rfl
  clear hc hs hp hz hz2
  generalize (⟨(decDigits u.toNat).toArray⟩ : ByteArray) = d1 at *
  generalize (⟨(decDigits k.toNat).toArray⟩ : ByteArray) = d2 at *
  obtain ⟨t1, t2, t3, t4, t5, s1, s2, s3, s4, s5, s6⟩ := joins6 a c d1 d2 ha hcs hl1 hl2
  generalize ((((((a ++ ⟨#[32]⟩) ++ c) ++ ⟨#[32]⟩) ++ d1) ++ ⟨#[32]⟩) ++ d2 : ByteArray) = t6 at *
  clear hl1 hl2 ha hcs
  go_enter Tryz.func29, Tryz.ntmps29
  go_wp2_with (go_at_call 41; refine HC.out.mono ?_; rintro e w1 ⟨rfl, hb⟩; have hK1 := HK.below hb; have hb1 : Below w.heap.size w w1 := (hB _).trans (hb.mono (by simp)))
  have hbR : ∀ d os, Below w.heap.size w (grow (redrawn w1 d) os) := fun d os => hb1.trans ((below_regrown w1 d os).mono hb1.size)
  have k0 := cell_regrown hK1.c0
  have k1 := cell_regrown hK1.c1
  have k2 := cell_regrown hK1.c2
  have k3 := cell_regrown hK1.c3
  have cI1 := fun d os => Calls.regrown_of (w := w1) (hI1 _ (hbR d os))
  have cI2 := fun d os => Calls.regrown_of (w := w1) (hI2 _ (hbR d os))
  clear HK hK1 hb hb1 HC hI1 hI2
  simp only at k0 k1 k2 k3
  refine wp_region_quiet_below (by kernel_rfl) (by kernel_rfl) ?_
  repeat (quiet_step (first | (go_at_call_of 28 (Value.int .i64 u); exact cI1 _ _) | (go_at_call_of 28 (Value.int .i64 k); exact cI2 _ _)))
  refine wpQuiet_nil ?_
  intro _ hw'
  obtain ⟨⟨dq, osq⟩, hw''⟩ := hw'
  subst hw''
  have hbE := hbR dq osq
  go_wp2
  go_ret
  exact ⟨rfl, hbE⟩
set_option maxHeartbeats 1000000 in
theorem ltext_out (x : Lo) (w : World) (s : Nat → Addr) (hz : x.1.size ≤ maxLen) (hz2 : x.2.1.size ≤ maxLen) (hs : Two w s) (h : okL x = false) :
    Calls Tryz.prog 29 #[agL x] w fun e w' => e = .returned (.string (ltext x)) ∧ Below w.heap.size w w' := by
  have hc := fun w hs => lcheck_any x w s hz hz2 hs
  have hk : lotErr x ≠ 0 := fun e => by rw [(okL_err x).2 e] at h; cases h
  rw [errP_pos s hk] at hc
  unfold ltext
  rw [h, if_neg (by decide)]
  clear h
  generalize s (lotErr x - 1) = ad at *
  obtain ⟨a, c, u, k⟩ := x
  unfold agL at *
  simp only at *
  have hB : ∀ o, Below w.heap.size w (w.alloc o) := fun o => (Below.refl _ w).alloc (Nat.le_refl _) _
  have HC : Hid (Calls Tryz.prog 41 #[.agg #[.string a, .string c, .int .i64 u, .int .i64 k]] (w.alloc (.cells #[.string a, .string c, .int .i64 u, .int .i64 k] 25)) _) := hc _ (hs.below (hB _))
  clear hc hs hz hz2 hk
  go_enter Tryz.func29, Tryz.ntmps29
  go_wp2_with (go_at_call 41; refine HC.out.mono ?_; rintro e w1 ⟨rfl, hb⟩)
  go_ret
  exact ⟨rfl, (hB _).trans (hb.mono (by simp))⟩
/-- lot.Text. -/
theorem ltext_any (x : Lo) (w : World) (s : Nat → Addr) (hz : x.1.size ≤ maxLen) (hz2 : x.2.1.size ≤ maxLen) (hs : Two w s) (hp : Pow w) :
    Calls Tryz.prog 29 #[agL x] w fun e w' => e = .returned (.string (ltext x)) ∧ Below w.heap.size w w' := by
  cases h : okL x with
  | true => exact ltext_in x w s hz hz2 hs hp h
  | false => exact ltext_out x w s hz hz2 hs h

set_option maxRecDepth 100000 in
set_option maxHeartbeats 1000000 in
/-- LotText at a lot that is well. -/
theorem lotText_in (x : Lo) (w : World) (hz : x.1.size ≤ maxLen) (hz2 : x.2.1.size ≤ maxLen) (h : okL x = true) :
    Calls Tryz.prog 32 #[agL x] w fun e w' => e = .returned (.string (ltext x)) ∧ Below w.heap.size w w' := by
  have hc : ∀ w, Calls Tryz.prog 25 #[agL x] w fun e w' => e = .returned (.int .i64 0) ∧ Below w.heap.size w w' := fun w => by
    have := lotError_any x w hz hz2
    rw [(okL_err x).1 h] at this
    exact this
  obtain ⟨hn, hn', a1, a2, a3, a4⟩ := okL_bounds h
  have ha := name_short hn
  have hcs := name_short hn'
  unfold ltext
  rw [if_pos h]
  clear h hn hn'
  obtain ⟨a, c, u, k⟩ := x
  unfold agL at *
  simp only at *
  have hB : ∀ o, Below w.heap.size w (w.alloc o) := fun o => (Below.refl _ w).alloc (Nat.le_refl _) _
  have hl1 := dec_size u.toNat (by omega)
  have hl2 := dec_size k.toNat (by omega)
  have hI1 := fun w1 => refDecimal u (by omega) (by omega) w1
  have hI2 := fun w1 => refDecimal k (by omega) (by omega) w1
  have HC : Hid (Calls Tryz.prog 25 #[.agg #[.string a, .string c, .int .i64 u, .int .i64 k]] (w.alloc (.cells #[.string a, .string c, .int .i64 u, .int .i64 k] 25)) _) := hc _
  have HK : BoxL w.heap.size (a, c, u, k) (w.alloc (.cells #[.string a, .string c, .int .i64 u, .int .i64 k] 25)) := BoxL.new w (a, c, u, k) _ rfl
  clear hc hz hz2
  generalize (⟨(decDigits u.toNat).toArray⟩ : ByteArray) = d1 at *
  generalize (⟨(decDigits k.toNat).toArray⟩ : ByteArray) = d2 at *
  obtain ⟨t1, t2, t3, t4, t5, s1, s2, s3, s4, s5, s6⟩ := joins6 a c d1 d2 ha hcs hl1 hl2
  generalize ((((((a ++ ⟨#[32]⟩) ++ c) ++ ⟨#[32]⟩) ++ d1) ++ ⟨#[32]⟩) ++ d2 : ByteArray) = t6 at *
  clear hl1 hl2 ha hcs
  go_enter Tryz.func32, Tryz.ntmps32
  go_wp2_with (go_at_call 25; refine HC.out.mono ?_; rintro e w1 ⟨rfl, hb⟩; have hK1 := HK.below hb; have hb1 : Below w.heap.size w w1 := (hB _).trans (hb.mono (by simp)))
  have hbR : ∀ d os, Below w.heap.size w (grow (redrawn w1 d) os) := fun d os => hb1.trans ((below_regrown w1 d os).mono hb1.size)
  have k0 := cell_regrown hK1.c0
  have k1 := cell_regrown hK1.c1
  have k2 := cell_regrown hK1.c2
  have k3 := cell_regrown hK1.c3
  have cI1 := fun d os => Calls.regrown_of (w := w1) (d := d) (os := os) (hI1 _)
  have cI2 := fun d os => Calls.regrown_of (w := w1) (d := d) (os := os) (hI2 _)
  clear HK hK1 hb hb1 HC hI1 hI2
  simp only at k0 k1 k2 k3
  refine wp_region_quiet_below (by kernel_rfl) (by kernel_rfl) ?_
  repeat (quiet_step (first | (go_at_call_of 31 (Value.int .i64 u); exact cI1 _ _) | (go_at_call_of 31 (Value.int .i64 k); exact cI2 _ _)))
  refine wpQuiet_nil ?_
  intro _ hw'
  obtain ⟨⟨dq, osq⟩, hw''⟩ := hw'
  subst hw''
  have hbE := hbR dq osq
  go_wp2
  go_ret
  exact ⟨rfl, hbE⟩
set_option maxHeartbeats 1000000 in
theorem lotText_out (x : Lo) (w : World) (hz : x.1.size ≤ maxLen) (hz2 : x.2.1.size ≤ maxLen) (h : okL x = false) :
    Calls Tryz.prog 32 #[agL x] w fun e w' => e = .returned (.string (ltext x)) ∧ Below w.heap.size w w' := by
  have hc := fun w => lotError_any x w hz hz2
  have hk : (0 : Int) < (lotErr x : Int) := by
    have : lotErr x ≠ 0 := fun e => by rw [(okL_err x).2 e] at h; cases h
    omega
  unfold ltext
  rw [h, if_neg (by decide)]
  clear h
  generalize (lotErr x : Int) = ke at *
  obtain ⟨a, c, u, k⟩ := x
  unfold agL at *
  simp only at *
  have hB : ∀ o, Below w.heap.size w (w.alloc o) := fun o => (Below.refl _ w).alloc (Nat.le_refl _) _
  have HC : Hid (Calls Tryz.prog 25 #[.agg #[.string a, .string c, .int .i64 u, .int .i64 k]] (w.alloc (.cells #[.string a, .string c, .int .i64 u, .int .i64 k] 25)) _) := hc _
  clear hc hz hz2
  go_enter Tryz.func32, Tryz.ntmps32
  go_wp2_with (go_at_call 25; refine HC.out.mono ?_; rintro e w1 ⟨rfl, hb⟩)
  go_ret
  exact ⟨rfl, (hB _).trans (hb.mono (by simp))⟩
/-- LotText. -/
theorem lotText_any (x : Lo) (w : World) (hz : x.1.size ≤ maxLen) (hz2 : x.2.1.size ≤ maxLen) :
    Calls Tryz.prog 32 #[agL x] w fun e w' => e = .returned (.string (ltext x)) ∧ Below w.heap.size w w' := by
  cases h : okL x with
  | true => exact lotText_in x w hz hz2 h
  | false => exact lotText_out x w hz hz2 h
end Go.Proofs.YtgdhfipbbijngaaGreatDoor
