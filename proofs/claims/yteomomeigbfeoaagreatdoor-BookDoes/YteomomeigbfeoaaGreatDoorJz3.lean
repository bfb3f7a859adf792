/-
 What place.Compare answers, over whatever world: the order of places by the way; nothing old is turned.
-/
import Derived.Test.YteomomeigbfeoaaGreatDoorJz2
import Derived.Test.YteomomeigbfeoaaGreatDoorJz1
import Derived.Lib.QuietBelow
import Derived.Laws.Concat
import Derived.BigQuiet
import Derived.LaidMore
import Derived.Lib.LaidTab
set_option maxRecDepth 100000
set_option maxHeartbeats 16000000
namespace Go.Proofs.YteomomeigbfeoaaGreatDoor
open Go.RowKit Go.Lib Go.Sort
abbrev agP (x : Pl) : Value := .agg #[.string x.1, .int .i64 x.2.1, .int .i64 x.2.2]
theorem baysI_any (r a b : Int) (w : World) : Calls Tryz.prog 161 #[.int .i64 r, .int .i64 a, .int .i64 b] w fun e w' => e = .returned (.int .i64 (bays r a b)) ∧ w' = w := by
 unfold bays
 by_cases h : r.tmod 2 = 0
 ·rw [if_pos h]
  have hb : (r.tmod 2 == 0) = true := by simpa using h
  go_enter Tryz.func161, Tryz.ntmps161
  go_wp2_with (go_at_call 102; refine (cmpI_any _ _ _).mono ?_; rintro e w1 ⟨rfl, rfl⟩)
  go_ret
  exact ⟨rfl, rfl⟩
 ·rw [if_neg h]
  have hb : (r.tmod 2 == 0) = false := by simpa using h
  go_enter Tryz.func161, Tryz.ntmps161
  go_wp2_with (go_at_call 102; refine (cmpI_any _ _ _).mono ?_; rintro e w1 ⟨rfl, rfl⟩)
  go_ret
  exact ⟨rfl, rfl⟩
theorem compare_any (x y : Pl) (w : World) : Calls Tryz.prog 109 #[agP x, agP y] w fun e w' => e = .returned (.int .i64 (cmpP x y)) ∧ ∃ q os, w' = grow (w.drewN q) os := by
 obtain ⟨a, r, b⟩ := x
 obtain ⟨a', r', b'⟩ := y
 unfold cmpP agP
 simp only
 have h1 := fun w => cmpS_any a a' w
 have h2 := fun w => cmpI_any r r' w
 have h3 := fun w => baysI_any r b b' w
 generalize cmpZ a a' = c1 at *
 generalize compareInt r r' = c2 at *
 generalize bays r b b' = c3 at *
 have h4 := fun bk c w => or3_any bk c c1 c2 c3 w
 generalize or3 c1 c2 c3 = c4 at *
 go_enter Tryz.func109, Tryz.ntmps109
 go_wp2
 go_region_held3 (fun w' => w'.cell? ⟨w.heap.size, 0, none⟩ = some (.string a) ∧ w'.cell? ⟨w.heap.size, 1, none⟩ = some (.int .i64 r) ∧ w'.cell? ⟨w.heap.size, 2, none⟩ = some (.int .i64 b) ∧ w'.cell? ⟨w.heap.size + 1, 0, none⟩ = some (.string a') ∧ w'.cell? ⟨w.heap.size + 1, 1, none⟩ = some (.int .i64 r') ∧ w'.cell? ⟨w.heap.size + 1, 2, none⟩ = some (.int .i64 b')) (go_keep)
  (first | (go_at_call 59; refine (h1 _).mono ?_; rintro e w1 ⟨rfl, rfl⟩) | (go_at_call 102; refine (h2 _).mono ?_; rintro e w1 ⟨rfl, rfl⟩) | (go_at_call 161; refine (h3 _).mono ?_; rintro e w1 ⟨rfl, rfl⟩) | (go_at_call 101; refine (h4 _ _ _ (new_cell _ _ _ _ _ (by simp) rfl) (new_cell _ _ _ _ _ (by simp) rfl) (new_cell _ _ _ _ _ (by simp) rfl)).mono ?_; rintro e w1 ⟨rfl, rfl⟩))
 go_wp2
 go_ret
 exact ⟨rfl, 1, _, grow_three _ _ _ _⟩
structure Two (w : World) (s : Nat → Addr) : Prop where
 bound : w.cell? ⟨1, 0, none⟩ = some (err (s 1))
 name : w.cell? ⟨8, 0, none⟩ = some (err (s 4))
theorem Two.below {w w' : World} {s : Nat → Addr} (h : Two w s) (hb : Below w.heap.size w w') : Two w' s where
 bound := by rw [hb.cell (p := ⟨1, 0, none⟩) (cell_lt h.bound)]; exact h.bound
 name := by rw [hb.cell (p := ⟨8, 0, none⟩) (cell_lt h.name)]; exact h.name
theorem Sent.two {w : World} {s : Nat → Addr} (h : Sent w s) : Two w s := ⟨h.cell 1 (by decide), h.cell 4 (by decide)⟩
def errP (s : Nat → Addr) (code : Nat) : Value := if code = 0 then .nilIface else err (s (code - 1))
theorem errP_zero (s : Nat → Addr) : errP s 0 = .nilIface := rfl
theorem errP_pos (s : Nat → Addr) {k : Nat} (h : k ≠ 0) : errP s k = err (s (k - 1)) := by unfold errP; rw [if_neg h]
theorem name_short {a : ByteArray} (h : isName a.data.toList = true) : a.size ≤ 8 := by
 unfold isName at h; simp at h
 rw [← size_len]; simpa using h.2.2
theorem dec_size (u : Nat) (h : u < 10 ^ 13) : (⟨(decDigits u).toArray⟩ : ByteArray).size ≤ 13 := by
 have := dec_short u h
 rw [← size_len]; simpa using this
structure Three (w : World) (s : Nat → Addr) : Prop where
 two : Two w s
 text : w.cell? ⟨6, 0, none⟩ = some (err (s 0))
theorem Three.below {w w' : World} {s : Nat → Addr} (h : Three w s) (hb : Below w.heap.size w w') : Three w' s where
 two := h.two.below hb
 text := by rw [hb.cell (p := ⟨6, 0, none⟩) (cell_lt h.text)]; exact h.text
theorem Sent.three {w : World} {s : Nat → Addr} (h : Sent w s) : Three w s := ⟨h.two, h.cell 0 (by decide)⟩
def cutB (c : UInt8) (l : List UInt8) : List UInt8 := if has c l then post c l else []
theorem mk_size (l : List UInt8) : (⟨l.toArray⟩ : ByteArray).size = l.length := by rw [← size_len, bytes_toList]
theorem bcell {W w1 : World} (hb : Below W.heap.size W w1) : (∀ b o, b < W.heap.size → w1.cell? ⟨b, o, none⟩ = W.cell? ⟨b, o, none⟩) ∧ (∀ b o, b < W.heap.size → w1.frozen? ⟨b, o, none⟩ = W.frozen? ⟨b, o, none⟩) :=
 ⟨fun b o h => hb.cell (p := ⟨b, o, none⟩) h, fun b o h => hb.frozen (p := ⟨b, o, none⟩) h⟩
theorem pcheck_any (x : Pl) (w : World) (s : Nat → Addr) (hz : x.1.size ≤ maxLen) (hs : Two w s) :
  Calls Tryz.prog 118 #[agP x] w fun e w' => e = .returned (errP s (placeErr x)) ∧ Below w.heap.size w w' := by
 obtain ⟨a, r, b⟩ := x
 unfold agP
 simp only at hz ⊢
 have hB : ∀ o, Below w.heap.size w (w.alloc o) := fun o => (Below.refl _ w).alloc (Nat.le_refl _) _
 have hs2 := hs.below (hB (.cells #[.string a, .int .i64 r, .int .i64 b] 28))
 obtain ⟨c1, c2⟩ := hs2
 have hn : ∀ w, Calls Tryz.prog 114 #[.string a] w _ := fun w => name_any a w hz
 cases h1 : isName a.data.toList with
 | false =>
  rw [h1] at hn
  have HE : Hid (errP s (placeErr (a, r, b)) = err (s 4)) := by
   show _ = _
   unfold placeErr; simp only [h1]; rfl
  clear hs
  go_enter Tryz.func118, Tryz.ntmps118
  go_wp2_with (go_at_call 114; refine (hn _).mono ?_; rintro e w1 ⟨rfl, rfl⟩)
  go_ret
  exact ⟨by rw [HE.out]; rfl, hB _⟩
 | true =>
  rw [h1] at hn
  clear hs
  have h2 : (1 ≤ r ∧ r ≤ 20 ∧ 1 ≤ b ∧ b ≤ 40) ∨ (r < 1) ∨ (1 ≤ r ∧ 20 < r) ∨ (1 ≤ r ∧ r ≤ 20 ∧ b < 1) ∨ (1 ≤ r ∧ r ≤ 20 ∧ 1 ≤ b ∧ 40 < b) := by omega
  rcases h2 with ⟨q1, q2, q3, q4⟩ | h2
  ·have HE : Hid (errP s (placeErr (a, r, b)) = .nilIface) := by
    show _ = _
    have : well r b = true := by unfold well; simp [q1, q2, q3, q4]
    unfold placeErr; simp only [h1, this]; rfl
   go_enter Tryz.func118, Tryz.ntmps118
   go_wp2_with (go_at_call 114; refine (hn _).mono ?_; rintro e w1 ⟨rfl, rfl⟩)
   go_ret
   exact ⟨by rw [HE.out]; rfl, hB _⟩
  ·have HE : Hid (errP s (placeErr (a, r, b)) = err (s 1)) := by
    show _ = _
    have : well r b = false := by unfold well; simp; omega
    unfold placeErr; simp only [h1, this]; rfl
   rcases h2 with h2 | ⟨q1, q2⟩ | ⟨q1, q2, q3⟩ | ⟨q1, q2, q3, q4⟩
   all_goals
    go_enter Tryz.func118, Tryz.ntmps118
    go_wp2_with (go_at_call 114; refine (hn _).mono ?_; rintro e w1 ⟨rfl, rfl⟩)
    go_ret
    exact ⟨by rw [HE.out]; rfl, hB _⟩
def ptext (x : Pl) : ByteArray := if okP x then (((x.1 ++ ⟨#[45]⟩) ++ ⟨(decDigits x.2.1.toNat).toArray⟩) ++ ⟨#[45]⟩) ++ ⟨(decDigits x.2.2.toNat).toArray⟩ else ⟨#[]⟩
theorem joins (a d1 d2 : ByteArray) (ha : a.size ≤ 8) (h1 : d1.size ≤ 13) (h2 : d2.size ≤ 13) : ∃ t1 t2 t3 : ByteArray,
  (∀ w, (Op.stringOp .add a ⟨#[45]⟩).run Tryz.prog w = .ok (.string t1) w) ∧ (∀ w, (Op.stringOp .add t1 d1).run Tryz.prog w = .ok (.string t2) w) ∧ (∀ w, (Op.stringOp .add t2 ⟨#[45]⟩).run Tryz.prog w = .ok (.string t3) w) ∧
  (∀ w, (Op.stringOp .add t3 d2).run Tryz.prog w = .ok (.string ((((a ++ ⟨#[45]⟩) ++ d1) ++ ⟨#[45]⟩) ++ d2)) w) := by
 have e : (⟨#[45]⟩ : ByteArray).size = 1 := rfl
 refine ⟨_, _, _, fun w => run_string_add_sum w _ _ ?_, fun w => run_string_add_sum w _ _ ?_, fun w => run_string_add_sum w _ _ ?_, fun w => run_string_add_sum w _ _ ?_⟩
 all_goals
  simp only [ByteArray.size_append, e]
  omega
theorem ptext_in (x : Pl) (w : World) (s : Nat → Addr) (hz : x.1.size ≤ maxLen) (hs : Two w s) (hp : Pow w) (h : okP x = true) :
  Calls Tryz.prog 74 #[agP x] w fun e w' => e = .returned (.string (ptext x)) ∧ Below w.heap.size w w' := by
 have hc := fun w hs => pcheck_any x w s hz hs
 rw [(okP_err x).1 h, errP_zero] at hc
 obtain ⟨hn, a1, a2, a3, a4⟩ := okP_bounds h
 have ha := name_short hn
 unfold ptext
 rw [if_pos h]
 clear h hn
 obtain ⟨a, r, b⟩ := x
 unfold agP at *
 simp only at *
 have hB : ∀ o, Below w.heap.size w (w.alloc o) := fun o => (Below.refl _ w).alloc (Nat.le_refl _) _
 have hl1 := dec_size r.toNat (by omega)
 have hl2 := dec_size b.toNat (by omega)
 have hI1 := fun w1 (hb : Below w.heap.size w w1) => itoa_any r (by omega) (by omega) w1 (hp.below hb)
 have hI2 := fun w1 (hb : Below w.heap.size w w1) => itoa_any b (by omega) (by omega) w1 (hp.below hb)
 have HC : Hid (Calls Tryz.prog 118 #[.agg #[.string a, .int .i64 r, .int .i64 b]] (w.alloc (.cells #[.string a, .int .i64 r, .int .i64 b] 28)) _) := hc _ (hs.below (hB _))
 clear hc hs hp hz
 generalize (⟨(decDigits r.toNat).toArray⟩ : ByteArray) = d1 at *
 generalize (⟨(decDigits b.toNat).toArray⟩ : ByteArray) = d2 at *
 obtain ⟨t1, t2, t3, s1, s2, s3, s4⟩ := joins a d1 d2 ha hl1 hl2
 generalize ((((a ++ ⟨#[45]⟩) ++ d1) ++ ⟨#[45]⟩) ++ d2 : ByteArray) = t4 at *
 clear hl1 hl2 ha
 go_enter Tryz.func74, Tryz.ntmps74
 go_wp2_with (go_at_call 118; refine HC.out.mono ?_; rintro e w1 ⟨rfl, hb⟩; have g0 : w1.cell? ⟨w.heap.size, 0, none⟩ = some (.string a) := (hb.cell (p := ⟨w.heap.size, 0, none⟩) (by simp)).trans (by simp); have g1 : w1.cell? ⟨w.heap.size, 1, none⟩ = some (.int .i64 r) := (hb.cell (p := ⟨w.heap.size, 1, none⟩) (by simp)).trans (by simp); have g2 : w1.cell? ⟨w.heap.size, 2, none⟩ = some (.int .i64 b) := (hb.cell (p := ⟨w.heap.size, 2, none⟩) (by simp)).trans (by simp); have hb1 : Below w.heap.size w w1 := (hB _).trans (hb.mono (by simp)))
 have hbR : ∀ d os, Below w.heap.size w (grow (redrawn w1 d) os) := fun d os => hb1.trans ((below_regrown w1 d os).mono hb1.size)
 have k0 := cell_regrown g0
 have k1 := cell_regrown g1
 have k2 := cell_regrown g2
 have cI1 := fun d os => Calls.regrown_of (w := w1) (hI1 _ (hbR d os))
 have cI2 := fun d os => Calls.regrown_of (w := w1) (hI2 _ (hbR d os))
 clear g0 g1 g2 hb hb1 HC hI1 hI2
 refine wp_region_quiet_below (by kernel_rfl) (by kernel_rfl) ?_
 repeat (quiet_step (first | (go_at_call_of 75 (Value.int .i64 r); exact cI1 _ _) | (go_at_call_of 75 (Value.int .i64 b); exact cI2 _ _)))
 refine wpQuiet_nil ?_
 intro _ hw'
 obtain ⟨⟨dq, osq⟩, hw''⟩ := hw'
 subst hw''
 have hbE := hbR dq osq
 go_wp2
 go_ret
 exact ⟨rfl, hbE⟩
theorem ptext_out (x : Pl) (w : World) (s : Nat → Addr) (hz : x.1.size ≤ maxLen) (hs : Two w s) (h : okP x = false) :
  Calls Tryz.prog 74 #[agP x] w fun e w' => e = .returned (.string (ptext x)) ∧ Below w.heap.size w w' := by
 have hc := fun w hs => pcheck_any x w s hz hs
 have hk : placeErr x ≠ 0 := fun e => by rw [(okP_err x).2 e] at h; cases h
 rw [errP_pos s hk] at hc
 unfold ptext
 rw [h, if_neg (by decide)]
 clear h
 generalize s (placeErr x - 1) = ad at *
 obtain ⟨a, r, b⟩ := x
 unfold agP at *
 simp only at *
 have hB : ∀ o, Below w.heap.size w (w.alloc o) := fun o => (Below.refl _ w).alloc (Nat.le_refl _) _
 have HC : Hid (Calls Tryz.prog 118 #[.agg #[.string a, .int .i64 r, .int .i64 b]] (w.alloc (.cells #[.string a, .int .i64 r, .int .i64 b] 28)) _) := hc _ (hs.below (hB _))
 clear hc hs hz hk
 go_enter Tryz.func74, Tryz.ntmps74
 go_wp2_with (go_at_call 118; refine HC.out.mono ?_; rintro e w1 ⟨rfl, hb⟩)
 go_ret
 exact ⟨rfl, (hB _).trans (hb.mono (by simp))⟩
theorem ptext_any (x : Pl) (w : World) (s : Nat → Addr) (hz : x.1.size ≤ maxLen) (hs : Two w s) (hp : Pow w) :
  Calls Tryz.prog 74 #[agP x] w fun e w' => e = .returned (.string (ptext x)) ∧ Below w.heap.size w w' := by
 cases h : okP x with
 | true => exact ptext_in x w s hz hs hp h
 | false => exact ptext_out x w s hz hs h
structure BoxAt (n : Nat) (x : Pl) (W : World) : Prop where
 c0 : W.cell? ⟨n, 0, none⟩ = some (.string x.1)
 c1 : W.cell? ⟨n, 1, none⟩ = some (.int .i64 x.2.1)
 c2 : W.cell? ⟨n, 2, none⟩ = some (.int .i64 x.2.2)
theorem BoxAt.below {n : Nat} {x : Pl} {W W' : World} (h : BoxAt n x W) (hb : Below W.heap.size W W') : BoxAt n x W' where
 c0 := by rw [hb.cell (p := ⟨n, 0, none⟩) (cell_lt h.c0)]; exact h.c0
 c1 := by rw [hb.cell (p := ⟨n, 1, none⟩) (cell_lt h.c1)]; exact h.c1
 c2 := by rw [hb.cell (p := ⟨n, 2, none⟩) (cell_lt h.c2)]; exact h.c2
theorem BoxAt.new (w : World) (x : Pl) (t n : Nat) (hn : n = w.heap.size) : BoxAt n x (w.alloc (.cells #[.string x.1, .int .i64 x.2.1, .int .i64 x.2.2] t)) where
 c0 := by rw [World.cell?_alloc_at _ _ _ _ hn]; rfl
 c1 := by rw [World.cell?_alloc_at _ _ _ _ hn]; rfl
 c2 := by rw [World.cell?_alloc_at _ _ _ _ hn]; rfl
abbrev boxTwo (w : World) (x y : Pl) : World := (w.alloc (.cells #[.string x.1, .int .i64 x.2.1, .int .i64 x.2.2] 28)).alloc (.cells #[.string y.1, .int .i64 y.2.1, .int .i64 y.2.2] 28)
theorem boxTwo_below (w : World) (x y : Pl) : Below w.heap.size w (boxTwo w x y) := ((Below.refl _ w).alloc (Nat.le_refl _) _).alloc (by simp) _
theorem boxTwo_first (w : World) (x y : Pl) : BoxAt w.heap.size x (boxTwo w x y) := (BoxAt.new w x _ _ rfl).below ((Below.refl _ _).alloc (Nat.le_refl _) _)
theorem boxTwo_second (w : World) (x y : Pl) : BoxAt (w.heap.size + 1) y (boxTwo w x y) := BoxAt.new _ y _ _ (by simp)
def zeroP : Pl := (⟨#[]⟩, 0, 0)
theorem placeError_any (x : Pl) (w : World) (hz : x.1.size ≤ maxLen) :
  Calls Tryz.prog 130 #[agP x] w fun e w' => e = .returned (.int .i64 (placeErr x)) ∧ Below w.heap.size w w' := by
 obtain ⟨a, r, b⟩ := x
 unfold agP
 simp only at hz ⊢
 have hB : ∀ o, Below w.heap.size w (w.alloc o) := fun o => (Below.refl _ w).alloc (Nat.le_refl _) _
 have hn : ∀ w, Calls Tryz.prog 127 #[.string a] w _ := fun w => isName_any a w hz
 cases h1 : isName a.data.toList with
 | false =>
  rw [h1] at hn
  have HE : Hid (placeErr (a, r, b) = 5) := by
   show _ = _
   unfold placeErr; simp only [h1]; rfl
  go_enter Tryz.func130, Tryz.ntmps130
  go_wp2_with (go_at_call 127; refine (hn _).mono ?_; rintro e w1 ⟨rfl, rfl⟩)
  go_ret
  exact ⟨by rw [HE.out]; rfl, hB _⟩
 | true =>
  rw [h1] at hn
  have h2 : (1 ≤ r ∧ r ≤ 20 ∧ 1 ≤ b ∧ b ≤ 40) ∨ (r < 1) ∨ (1 ≤ r ∧ 20 < r) ∨ (1 ≤ r ∧ r ≤ 20 ∧ b < 1) ∨ (1 ≤ r ∧ r ≤ 20 ∧ 1 ≤ b ∧ 40 < b) := by omega
  rcases h2 with ⟨q1, q2, q3, q4⟩ | h2
  ·have HE : Hid (placeErr (a, r, b) = 0) := by
    show _ = _
    have : well r b = true := by unfold well; simp [q1, q2, q3, q4]
    unfold placeErr; simp only [h1, this]; rfl
   go_enter Tryz.func130, Tryz.ntmps130
   go_wp2_with (go_at_call 127; refine (hn _).mono ?_; rintro e w1 ⟨rfl, rfl⟩)
   go_ret
   exact ⟨by rw [HE.out]; rfl, hB _⟩
  ·have HE : Hid (placeErr (a, r, b) = 2) := by
    show _ = _
    have : well r b = false := by unfold well; simp; omega
    unfold placeErr; simp only [h1, this]; rfl
   rcases h2 with h2 | ⟨q1, q2⟩ | ⟨q1, q2, q3⟩ | ⟨q1, q2, q3, q4⟩
   all_goals
    go_enter Tryz.func130, Tryz.ntmps130
    go_wp2_with (go_at_call 127; refine (hn _).mono ?_; rintro e w1 ⟨rfl, rfl⟩)
    go_ret
    exact ⟨by rw [HE.out]; rfl, hB _⟩
theorem isAhead_any (x y : Pl) (w : World) : Calls Tryz.prog 204 #[agP x, agP y] w fun e w' => e = .returned (.bool (aheadP x y)) ∧ Below w.heap.size w w' := by
 obtain ⟨a, r, b⟩ := x
 obtain ⟨a', r', b'⟩ := y
 unfold agP
 simp only
 have hB : ∀ o o', Below w.heap.size w ((w.alloc o).alloc o') := fun o o' => ((Below.refl _ w).alloc (Nat.le_refl _) _).alloc (by simp) _
 have e1 := less_eq a a'
 by_cases hz : a = a'
 ·subst hz
  by_cases hr : r = r'
  ·subst hr
   by_cases hp : r.tmod 2 = 0
   ·have hp' : (r.tmod 2 == 0) = true := by simpa using hp
    have HE : Hid (aheadP (a, r, b) (a, r, b') = decide (b' < b)) := by
     show _ = _
     rw [Bool.eq_iff_iff, aheadP_iff]; unfold aheadW; simp [zLt_irrefl, hp]
    clear hp e1
    go_enter Tryz.func204, Tryz.ntmps204
    go_wp2
    go_ret
    exact ⟨by rw [HE.out]; rfl, hB _ _⟩
   ·have hp' : (r.tmod 2 == 0) = false := by simpa using hp
    have HE : Hid (aheadP (a, r, b) (a, r, b') = decide (b < b')) := by
     show _ = _
     rw [Bool.eq_iff_iff, aheadP_iff]; unfold aheadW; simp [zLt_irrefl, hp]
    clear hp e1
    go_enter Tryz.func204, Tryz.ntmps204
    go_wp2
    go_ret
    exact ⟨by rw [HE.out]; rfl, hB _ _⟩
  ·have hr' : (r == r') = false := by simpa using hr
   have HE : Hid (aheadP (a, r, b) (a, r', b') = decide (r < r')) := by
    show _ = _
    rw [Bool.eq_iff_iff, aheadP_iff]; unfold aheadW; simp [zLt_irrefl, hr]
   clear hr e1
   go_enter Tryz.func204, Tryz.ntmps204
   go_wp2
   go_ret
   exact ⟨by rw [HE.out]; rfl, hB _ _⟩
 ·have e3 := same_eq a a'
  rw [decide_eq_false hz] at e3
  have HE : Hid (aheadP (a, r, b) (a', r', b') = zLt a a') := by
   show _ = _
   rw [Bool.eq_iff_iff, aheadP_iff]; unfold aheadW; simp [hz]
  have H1 : Hid (Op.bytesLess a.toList a'.toList = zLt a a') := e1
  clear e1 hz
  go_enter Tryz.func204, Tryz.ntmps204
  go_wp2
  go_ret
  exact ⟨by rw [HE.out, ← H1.out]; rfl, hB _ _⟩
theorem placeText_in (x : Pl) (w : World) (hz : x.1.size ≤ maxLen) (h : okP x = true) :
  Calls Tryz.prog 184 #[agP x] w fun e w' => e = .returned (.string (ptext x)) ∧ Below w.heap.size w w' := by
 have hc : ∀ w, Calls Tryz.prog 130 #[agP x] w fun e w' => e = .returned (.int .i64 0) ∧ Below w.heap.size w w' := fun w => by
  have := placeError_any x w hz
  rw [(okP_err x).1 h] at this
  exact this
 obtain ⟨hn, a1, a2, a3, a4⟩ := okP_bounds h
 have ha := name_short hn
 unfold ptext
 rw [if_pos h]
 clear h hn
 obtain ⟨a, r, b⟩ := x
 unfold agP at *
 simp only at *
 have hB : ∀ o, Below w.heap.size w (w.alloc o) := fun o => (Below.refl _ w).alloc (Nat.le_refl _) _
 have hl1 := dec_size r.toNat (by omega)
 have hl2 := dec_size b.toNat (by omega)
 have hI1 := fun w1 => refDecimal r (by omega) (by omega) w1
 have hI2 := fun w1 => refDecimal b (by omega) (by omega) w1
 have HC : Hid (Calls Tryz.prog 130 #[.agg #[.string a, .int .i64 r, .int .i64 b]] (w.alloc (.cells #[.string a, .int .i64 r, .int .i64 b] 28)) _) := hc _
 clear hc hz
 generalize (⟨(decDigits r.toNat).toArray⟩ : ByteArray) = d1 at *
 generalize (⟨(decDigits b.toNat).toArray⟩ : ByteArray) = d2 at *
 obtain ⟨t1, t2, t3, s1, s2, s3, s4⟩ := joins a d1 d2 ha hl1 hl2
 generalize ((((a ++ ⟨#[45]⟩) ++ d1) ++ ⟨#[45]⟩) ++ d2 : ByteArray) = t4 at *
 clear hl1 hl2 ha
 go_enter Tryz.func184, Tryz.ntmps184
 go_wp2_with (go_at_call 130; refine HC.out.mono ?_; rintro e w1 ⟨rfl, hb⟩; have g0 : w1.cell? ⟨w.heap.size, 0, none⟩ = some (.string a) := (hb.cell (p := ⟨w.heap.size, 0, none⟩) (by simp)).trans (by simp); have g1 : w1.cell? ⟨w.heap.size, 1, none⟩ = some (.int .i64 r) := (hb.cell (p := ⟨w.heap.size, 1, none⟩) (by simp)).trans (by simp); have g2 : w1.cell? ⟨w.heap.size, 2, none⟩ = some (.int .i64 b) := (hb.cell (p := ⟨w.heap.size, 2, none⟩) (by simp)).trans (by simp); have hb1 : Below w.heap.size w w1 := (hB _).trans (hb.mono (by simp)))
 have hbR : ∀ d os, Below w.heap.size w (grow (redrawn w1 d) os) := fun d os => hb1.trans ((below_regrown w1 d os).mono hb1.size)
 have k0 := cell_regrown g0
 have k1 := cell_regrown g1
 have k2 := cell_regrown g2
 have cI1 := fun d os => Calls.regrown_of (w := w1) (d := d) (os := os) (hI1 _)
 have cI2 := fun d os => Calls.regrown_of (w := w1) (d := d) (os := os) (hI2 _)
 clear g0 g1 g2 hb hb1 HC hI1 hI2
 refine wp_region_quiet_below (by kernel_rfl) (by kernel_rfl) ?_
 repeat (quiet_step (first | (go_at_call_of 185 (Value.int .i64 r); exact cI1 _ _) | (go_at_call_of 185 (Value.int .i64 b); exact cI2 _ _)))
 refine wpQuiet_nil ?_
 intro _ hw'
 obtain ⟨⟨dq, osq⟩, hw''⟩ := hw'
 subst hw''
 have hbE := hbR dq osq
 go_wp2
 go_ret
 exact ⟨rfl, hbE⟩
theorem coded_nil2 (n : Int) (w : World) : Calls Tryz.prog 39 #[.nilIface, .int .i64 n] w fun e w' => e = .returned (.bool (decide (0 = n))) ∧ w' = w := by
 go_enter Tryz.func39, Tryz.ntmps39
 by_cases h : (0 : Int) = n
 ·subst h
  go_wp2_with (go_at_call 67; refine (code_nil _).mono ?_; rintro e w1 ⟨rfl, rfl⟩)
  go_ret
  exact ⟨rfl, rfl⟩
 ·have hb : ((0 : Int) == n) = false := by simpa using h
  go_wp2_with (go_at_call 67; refine (code_nil _).mono ?_; rintro e w1 ⟨rfl, rfl⟩)
  go_ret
  exact ⟨by simp [h], rfl⟩
theorem coded_of2 (v : Value) (c n : Int) (w : World) (B : Nat) (hv : Calls Tryz.prog 67 #[v] w fun e w' => e = .returned (.tuple #[.int .i64 c, .int .i64 (-1)]) ∧ Below B w w') :
  Calls Tryz.prog 39 #[v, .int .i64 n] w fun e w' => e = .returned (.bool (decide (c = n))) ∧ Below B w w' := by
 go_enter Tryz.func39, Tryz.ntmps39
 have H : Hid (Calls Tryz.prog 67 #[v] w fun e w' => e = .returned (.tuple #[.int .i64 c, .int .i64 (-1)]) ∧ Below B w w') := hv
 clear hv
 by_cases h : c = n
 ·subst h
  go_wp2_with (go_at_call 67; refine H.out.mono ?_; rintro e w1 ⟨rfl, hb⟩)
  go_ret
  exact ⟨by simp, hb⟩
 ·have hb : (c == n) = false := by simpa using h
  go_wp2_with (go_at_call 67; refine H.out.mono ?_; rintro e w1 ⟨rfl, hb⟩)
  go_ret
  exact ⟨by simp [h], ‹Below B w w1›⟩
theorem codedP_any2 (s : Nat → Addr) (code : Nat) (hc : code ≤ 12) (n : Int) (w : World) (hs : Sent w s) (hh : Handle w) :
  Calls Tryz.prog 39 #[errP s code, .int .i64 n] w fun e w' => e = .returned (.bool (decide ((code : Int) = n))) ∧ Below w.heap.size w w' := by
 rcases code with _ | k
 ·rw [errP_zero]
  refine (coded_nil2 n w).mono ?_
  rintro e w' ⟨rfl, rfl⟩
  exact ⟨rfl, Below.refl _ _⟩
 ·rw [errP_pos s (by omega)]
  refine (coded_of2 _ _ n w _ (code_sent k (by omega) w s hs hh)).mono ?_
  rintro e w' ⟨rfl, hb⟩
  exact ⟨rfl, hb⟩
end Go.Proofs.YteomomeigbfeoaaGreatDoor
namespace Go.Proofs.YteomomeigbfeoaaGreatDoor
open Go.ChangeShapes Go.WideShapes Go.RowKit
theorem Tryz.gPow : Tryz.prog.globalNamed "internal/strconv.uint64pow10" = some 14 := by kernel_rfl
theorem Tryz.gPowType : (Tryz.prog.globals[14]?).map (·.type) = some 286 := by kernel_rfl
theorem Tryz.cellsPow : Tryz.prog.cellsOf 286 = 20 := by kernel_rfl
theorem Tryz.cellsU64 : Tryz.prog.cellsOf 228 = 1 := by kernel_rfl
theorem pow_of_laid {W : World} {rest : List (String × DataW Unit)} (h : laidMet Tryz.prog (("internal/strconv.uint64pow10", Rows.laid_internal_strconv_uint64pow10) :: rest) W) : Pow W :=
 Lib.tabIs_of_head (k := .u64) (zs := Lib.pow10Tab) Tryz.gPow Tryz.gPowType Tryz.underlying286 Tryz.underlying228 Tryz.cellsU64 Tryz.cellsPow h
end Go.Proofs.YteomomeigbfeoaaGreatDoor
