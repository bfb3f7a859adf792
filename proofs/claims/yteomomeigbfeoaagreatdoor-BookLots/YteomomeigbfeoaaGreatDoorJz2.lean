/-
 What cmp.Compare (of ints, of strings) and cmp.Or (of two, of three) answer, over whatever world; the world is left.
-/
import Derived.Test.YteomomeigbfeoaaGreatDoorJz1
import Derived.Deep.RegionHeld3
import Derived.Sort.Walk0
import Derived.Laws.Cover1
import Derived.Lib.QuietBelow
import Derived.Laws.Concat
import Derived.BigQuiet
import Derived.LaidMore
import Derived.Lib.LaidTab
set_option maxRecDepth 100000
set_option maxHeartbeats 16000000
namespace Go.Proofs.YteomomeigbfeoaaGreatDoor
open Go.RowKit Go.Lib Go.Sort
theorem nanS (x : ByteArray) (w : World) : Calls Tryz.prog 98 #[.string x] w fun e w' => e = .returned (.bool false) ∧ w' = w := by
 go_enter Tryz.func98, Tryz.ntmps98
 go_wp2
 go_ret
 exact ⟨by simp, rfl⟩
theorem nanI (x : Int) (w : World) : Calls Tryz.prog 143 #[.int .i64 x] w fun e w' => e = .returned (.bool false) ∧ w' = w := by
 go_enter Tryz.func143, Tryz.ntmps143
 go_wp2
 go_ret
 exact ⟨by simp, rfl⟩
theorem less_eq (x y : ByteArray) : Op.bytesLess x.toList y.toList = zLt x y := by
 rw [bytesLess_eq, Lib.toList_data, Lib.toList_data]; rfl
theorem cmpI_any (x y : Int) (w : World) : Calls Tryz.prog 102 #[.int .i64 x, .int .i64 y] w fun e w' => e = .returned (.int .i64 (compareInt x y)) ∧ w' = w := by
 go_enter Tryz.func102, Tryz.ntmps102
 go_wp2_with (go_at_call 143; refine (nanI _ _).mono ?_; rintro e w1 ⟨rfl, rfl⟩)
 all_goals (go_ret; refine ⟨?_, rfl⟩; unfold Lib.compareInt; (repeat' split) <;> first | rfl | (exfalso; omega))
theorem same_eq (x y : ByteArray) : (x.toList == y.toList) = decide (x = y) := by
 rw [Lib.toList_data, Lib.toList_data, Bool.eq_iff_iff]
 simp only [beq_iff_eq, decide_eq_true_eq]
 constructor
 ·intro h; cases x; cases y; simp at h; simp [h]
 ·rintro rfl; rfl
theorem cmpS_any (x y : ByteArray) (w : World) : Calls Tryz.prog 59 #[.string x, .string y] w fun e w' => e = .returned (.int .i64 (cmpZ x y)) ∧ w' = w := by
 have e1 := less_eq x y
 have e3 := same_eq x y
 rcases cmpZ_cases x y with ⟨h1, h2, h3, h4⟩ | ⟨h1, h2, h3, h4⟩ | ⟨h1, h2, h3, h4⟩
 ·rw [h1] at e1
  rw [h4]
  clear h1 h2 h3 h4 e3
  go_enter Tryz.func59, Tryz.ntmps59
  go_wp2_with (go_at_call 98; refine (nanS _ _).mono ?_; rintro e w1 ⟨rfl, rfl⟩)
  go_ret
  exact ⟨rfl, rfl⟩
 ·rw [h1] at e1
  rw [decide_eq_false h3] at e3
  rw [h4]
  clear h1 h2 h3 h4
  go_enter Tryz.func59, Tryz.ntmps59
  go_wp2_with (go_at_call 98; refine (nanS _ _).mono ?_; rintro e w1 ⟨rfl, rfl⟩)
  go_ret
  exact ⟨rfl, rfl⟩
 ·rw [h1] at e1
  rw [h4]
  subst h3
  clear h1 h2 h4 e3
  go_enter Tryz.func59, Tryz.ntmps59
  go_wp2_with (go_at_call 98; refine (nanS _ _).mono ?_; rintro e w1 ⟨rfl, rfl⟩)
  go_ret
  exact ⟨rfl, rfl⟩
def or2 (a b : Int) : Int := if a = 0 then b else a
theorem or2_any (b c0 : Nat) (x y : Int) (w : World) (h0 : w.cell? ⟨b, 0, none⟩ = some (.int .i64 x)) (h1 : w.cell? ⟨b, 1, none⟩ = some (.int .i64 y)) :
  Calls Tryz.prog 101 #[.slice (some ⟨b, 0, none⟩) 2 c0] w fun e w' => e = .returned (.int .i64 (or2 x y)) ∧ w' = w := by
 unfold or2
 by_cases hx : x = 0
 ·have hx' : (x == 0) = true := by simpa using hx
  rw [if_pos hx]
  by_cases hy : y = 0
  ·have hy' : (y == 0) = true := by simpa using hy
   rw [hy] at h1 ⊢
   clear hx hy
   go_enter Tryz.func101, Tryz.ntmps101
   go_wp2
   refine wp_loop_rounds 3 ?_
   rw [rounds_succ]; go_wp2
   rw [rounds_succ]; go_wp2
   rw [rounds_succ]; go_wp2
   go_ret
   exact ⟨rfl, rfl⟩
  ·have hy' : (y == 0) = false := by simpa using hy
   clear hx hy
   go_enter Tryz.func101, Tryz.ntmps101
   go_wp2
   refine wp_loop_rounds 3 ?_
   rw [rounds_succ]; go_wp2
   rw [rounds_succ]; go_wp2
   go_ret
   exact ⟨rfl, rfl⟩
 ·have hx' : (x == 0) = false := by simpa using hx
  rw [if_neg hx]
  clear hx
  go_enter Tryz.func101, Tryz.ntmps101
  go_wp2
  refine wp_loop_rounds 3 ?_
  rw [rounds_succ]; go_wp2
  go_ret
  exact ⟨rfl, rfl⟩
theorem or3_any (b c0 : Nat) (x y z : Int) (w : World) (h0 : w.cell? ⟨b, 0, none⟩ = some (.int .i64 x)) (h1 : w.cell? ⟨b, 1, none⟩ = some (.int .i64 y)) (h2 : w.cell? ⟨b, 2, none⟩ = some (.int .i64 z)) :
  Calls Tryz.prog 101 #[.slice (some ⟨b, 0, none⟩) 3 c0] w fun e w' => e = .returned (.int .i64 (or3 x y z)) ∧ w' = w := by
 unfold or3
 by_cases hx : x = 0
 ·have hx' : (x == 0) = true := by simpa using hx
  rw [if_pos hx]
  by_cases hy : y = 0
  ·have hy' : (y == 0) = true := by simpa using hy
   rw [if_pos hy]
   by_cases hz : z = 0
   ·have hz' : (z == 0) = true := by simpa using hz
    rw [hz] at h2 ⊢
    clear hx hy hz
    go_enter Tryz.func101, Tryz.ntmps101
    go_wp2
    refine wp_loop_rounds 4 ?_
    rw [rounds_succ]; go_wp2
    rw [rounds_succ]; go_wp2
    rw [rounds_succ]; go_wp2
    rw [rounds_succ]; go_wp2
    go_ret
    exact ⟨rfl, rfl⟩
   ·have hz' : (z == 0) = false := by simpa using hz
    clear hx hy hz
    go_enter Tryz.func101, Tryz.ntmps101
    go_wp2
    refine wp_loop_rounds 4 ?_
    rw [rounds_succ]; go_wp2
    rw [rounds_succ]; go_wp2
    rw [rounds_succ]; go_wp2
    go_ret
    exact ⟨rfl, rfl⟩
  ·have hy' : (y == 0) = false := by simpa using hy
   rw [if_neg hy]
   clear hx hy
   go_enter Tryz.func101, Tryz.ntmps101
   go_wp2
   refine wp_loop_rounds 4 ?_
   rw [rounds_succ]; go_wp2
   rw [rounds_succ]; go_wp2
   go_ret
   exact ⟨rfl, rfl⟩
 ·have hx' : (x == 0) = false := by simpa using hx
  rw [if_neg hx]
  clear hx
  go_enter Tryz.func101, Tryz.ntmps101
  go_wp2
  refine wp_loop_rounds 4 ?_
  rw [rounds_succ]; go_wp2
  go_ret
  exact ⟨rfl, rfl⟩
theorem new_cell {W : World} (c : Array Value) (t n i : Nat) (v : Value) (hn : n = W.heap.size) (h : c[i]? = some v) : (W.alloc (.cells c t)).drew.cell? ⟨n, i, none⟩ = some v := by
 show (W.alloc (.cells c t)).cell? ⟨n, i, none⟩ = some v
 rw [World.cell?_alloc_at c t n i hn]; exact h
theorem grow_three (w : World) (o1 o2 o3 : Obj) : (((w.alloc o1).alloc o2).alloc o3).drew = grow (w.drewN 1) #[o1, o2, o3] := by
 rw [alloc_eq_grow, alloc_eq_grow, alloc_eq_grow, grow_grow, grow_grow]; rfl
abbrev agP (x : Pl) : Value := .agg #[.string x.1, .int .i64 x.2.1, .int .i64 x.2.2]
theorem baysI_any (r a b : Int) (w : World) : Calls Tryz.prog 161 #[.int .i64 r, .int .i64 a, .int .i64 b] w fun e w' => e = .returned (.int .i64 (bays r a b)) ∧ w' = w := by
 unfold bays
 by_cases h : r.tmod 2 = 0
 ·rw [if_pos h]
  have hb : (r.tmod 2 == 0) = true := by simpa using h
  go_enter Tryz.func161, Tryz.ntmps161
  go_wp2_with (go_at_call 102; refine (cmpI_any _ _ _).mono ?_; rintro e w1 ⟨rfl, rfl⟩)
  go_ret
  exact ⟨rfl, rfl⟩
 ·rw [if_neg h]
  have hb : (r.tmod 2 == 0) = false := by simpa using h
  go_enter Tryz.func161, Tryz.ntmps161
  go_wp2_with (go_at_call 102; refine (cmpI_any _ _ _).mono ?_; rintro e w1 ⟨rfl, rfl⟩)
  go_ret
  exact ⟨rfl, rfl⟩
theorem compare_any (x y : Pl) (w : World) : Calls Tryz.prog 109 #[agP x, agP y] w fun e w' => e = .returned (.int .i64 (cmpP x y)) ∧ ∃ q os, w' = grow (w.drewN q) os := by
 obtain ⟨a, r, b⟩ := x
 obtain ⟨a', r', b'⟩ := y
 unfold cmpP agP
 simp only
 have h1 := fun w => cmpS_any a a' w
 have h2 := fun w => cmpI_any r r' w
 have h3 := fun w => baysI_any r b b' w
 generalize cmpZ a a' = c1 at *
 generalize compareInt r r' = c2 at *
 generalize bays r b b' = c3 at *
 have h4 := fun bk c w => or3_any bk c c1 c2 c3 w
 generalize or3 c1 c2 c3 = c4 at *
 go_enter Tryz.func109, Tryz.ntmps109
 go_wp2
 go_region_held3 (fun w' => w'.cell? ⟨w.heap.size, 0, none⟩ = some (.string a) ∧ w'.cell? ⟨w.heap.size, 1, none⟩ = some (.int .i64 r) ∧ w'.cell? ⟨w.heap.size, 2, none⟩ = some (.int .i64 b) ∧ w'.cell? ⟨w.heap.size + 1, 0, none⟩ = some (.string a') ∧ w'.cell? ⟨w.heap.size + 1, 1, none⟩ = some (.int .i64 r') ∧ w'.cell? ⟨w.heap.size + 1, 2, none⟩ = some (.int .i64 b')) (go_keep)
  (first | (go_at_call 59; refine (h1 _).mono ?_; rintro e w1 ⟨rfl, rfl⟩) | (go_at_call 102; refine (h2 _).mono ?_; rintro e w1 ⟨rfl, rfl⟩) | (go_at_call 161; refine (h3 _).mono ?_; rintro e w1 ⟨rfl, rfl⟩) | (go_at_call 101; refine (h4 _ _ _ (new_cell _ _ _ _ _ (by simp) rfl) (new_cell _ _ _ _ _ (by simp) rfl) (new_cell _ _ _ _ _ (by simp) rfl)).mono ?_; rintro e w1 ⟨rfl, rfl⟩))
 go_wp2
 go_ret
 exact ⟨rfl, 1, _, grow_three _ _ _ _⟩
structure Two (w : World) (s : Nat → Addr) : Prop where
 bound : w.cell? ⟨1, 0, none⟩ = some (err (s 1))
 name : w.cell? ⟨8, 0, none⟩ = some (err (s 4))
theorem Two.below {w w' : World} {s : Nat → Addr} (h : Two w s) (hb : Below w.heap.size w w') : Two w' s where
 bound := by rw [hb.cell (p := ⟨1, 0, none⟩) (cell_lt h.bound)]; exact h.bound
 name := by rw [hb.cell (p := ⟨8, 0, none⟩) (cell_lt h.name)]; exact h.name
theorem Sent.two {w : World} {s : Nat → Addr} (h : Sent w s) : Two w s := ⟨h.cell 1 (by decide), h.cell 4 (by decide)⟩
def errP (s : Nat → Addr) (code : Nat) : Value := if code = 0 then .nilIface else err (s (code - 1))
theorem errP_zero (s : Nat → Addr) : errP s 0 = .nilIface := rfl
theorem errP_pos (s : Nat → Addr) {k : Nat} (h : k ≠ 0) : errP s k = err (s (k - 1)) := by unfold errP; rw [if_neg h]
theorem name_short {a : ByteArray} (h : isName a.data.toList = true) : a.size ≤ 8 := by
 unfold isName at h; simp at h
 rw [← size_len]; simpa using h.2.2
theorem dec_size (u : Nat) (h : u < 10 ^ 13) : (⟨(decDigits u).toArray⟩ : ByteArray).size ≤ 13 := by
 have := dec_short u h
 rw [← size_len]; simpa using this
structure Three (w : World) (s : Nat → Addr) : Prop where
 two : Two w s
 text : w.cell? ⟨6, 0, none⟩ = some (err (s 0))
theorem Three.below {w w' : World} {s : Nat → Addr} (h : Three w s) (hb : Below w.heap.size w w') : Three w' s where
 two := h.two.below hb
 text := by rw [hb.cell (p := ⟨6, 0, none⟩) (cell_lt h.text)]; exact h.text
theorem Sent.three {w : World} {s : Nat → Addr} (h : Sent w s) : Three w s := ⟨h.two, h.cell 0 (by decide)⟩
def cutA (c : UInt8) (l : List UInt8) : List UInt8 := if has c l then pre c l else l
def cutB (c : UInt8) (l : List UInt8) : List UInt8 := if has c l then post c l else []
theorem cutA_le (c : UInt8) (l : List UInt8) : (cutA c l).length ≤ l.length := by
 unfold cutA; split
 ·exact pre_length_le c l
 ·exact Nat.le_refl _
theorem cutB_le (c : UInt8) (l : List UInt8) : (cutB c l).length ≤ l.length := by
 unfold cutB; split
 ·rw [← drop_pre, List.length_drop]; omega
 ·simp
theorem mk_size (l : List UInt8) : (⟨l.toArray⟩ : ByteArray).size = l.length := by rw [← size_len, bytes_toList]
theorem bcell {W w1 : World} (hb : Below W.heap.size W w1) : (∀ b o, b < W.heap.size → w1.cell? ⟨b, o, none⟩ = W.cell? ⟨b, o, none⟩) ∧ (∀ b o, b < W.heap.size → w1.frozen? ⟨b, o, none⟩ = W.frozen? ⟨b, o, none⟩) :=
 ⟨fun b o h => hb.cell (p := ⟨b, o, none⟩) h, fun b o h => hb.frozen (p := ⟨b, o, none⟩) h⟩
theorem split_pos (c : UInt8) (l : List UInt8) : splitL c l ≠ [] := by unfold splitL; simp
theorem isNum_ne {n : Nat} {l : List UInt8} (h : isNum n l = true) : l ≠ [] := by
 rintro rfl; rw [isNum_nil] at h; cases h
theorem cutB_no {c : UInt8} {l : List UInt8} (h : has c l = false) : cutB c l = [] := by unfold cutB; rw [h]; rfl
theorem cutB_yes {c : UInt8} {l : List UInt8} (h : has c l = true) : cutB c l = post c l := by unfold cutB; rw [if_pos h]
theorem cutA_yes {c : UInt8} {l : List UInt8} (h : has c l = true) : cutA c l = pre c l := by unfold cutA; rw [if_pos h]
theorem pcheck_any (x : Pl) (w : World) (s : Nat → Addr) (hz : x.1.size ≤ maxLen) (hs : Two w s) :
  Calls Tryz.prog 118 #[agP x] w fun e w' => e = .returned (errP s (placeErr x)) ∧ Below w.heap.size w w' := by
 obtain ⟨a, r, b⟩ := x
 unfold agP
 simp only at hz ⊢
 have hB : ∀ o, Below w.heap.size w (w.alloc o) := fun o => (Below.refl _ w).alloc (Nat.le_refl _) _
 have hs2 := hs.below (hB (.cells #[.string a, .int .i64 r, .int .i64 b] 28))
 obtain ⟨c1, c2⟩ := hs2
 have hn : ∀ w, Calls Tryz.prog 114 #[.string a] w _ := fun w => name_any a w hz
 cases h1 : isName a.data.toList with
 | false =>
  rw [h1] at hn
  have HE : Hid (errP s (placeErr (a, r, b)) = err (s 4)) := by
   show _ = _
   unfold placeErr; simp only [h1]; rfl
  clear hs
  go_enter Tryz.func118, Tryz.ntmps118
  go_wp2_with (go_at_call 114; refine (hn _).mono ?_; rintro e w1 ⟨rfl, rfl⟩)
  go_ret
  exact ⟨by rw [HE.out]; rfl, hB _⟩
 | true =>
  rw [h1] at hn
  clear hs
  have h2 : (1 ≤ r ∧ r ≤ 20 ∧ 1 ≤ b ∧ b ≤ 40) ∨ (r < 1) ∨ (1 ≤ r ∧ 20 < r) ∨ (1 ≤ r ∧ r ≤ 20 ∧ b < 1) ∨ (1 ≤ r ∧ r ≤ 20 ∧ 1 ≤ b ∧ 40 < b) := by omega
  rcases h2 with ⟨q1, q2, q3, q4⟩ | h2
  ·have HE : Hid (errP s (placeErr (a, r, b)) = .nilIface) := by
    show _ = _
    have : well r b = true := by unfold well; simp [q1, q2, q3, q4]
    unfold placeErr; simp only [h1, this]; rfl
   go_enter Tryz.func118, Tryz.ntmps118
   go_wp2_with (go_at_call 114; refine (hn _).mono ?_; rintro e w1 ⟨rfl, rfl⟩)
   go_ret
   exact ⟨by rw [HE.out]; rfl, hB _⟩
  ·have HE : Hid (errP s (placeErr (a, r, b)) = err (s 1)) := by
    show _ = _
    have : well r b = false := by unfold well; simp; omega
    unfold placeErr; simp only [h1, this]; rfl
   rcases h2 with h2 | ⟨q1, q2⟩ | ⟨q1, q2, q3⟩ | ⟨q1, q2, q3, q4⟩
   all_goals
    go_enter Tryz.func118, Tryz.ntmps118
    go_wp2_with (go_at_call 114; refine (hn _).mono ?_; rintro e w1 ⟨rfl, rfl⟩)
    go_ret
    exact ⟨by rw [HE.out]; rfl, hB _⟩
def ptext (x : Pl) : ByteArray := if okP x then (((x.1 ++ ⟨#[45]⟩) ++ ⟨(decDigits x.2.1.toNat).toArray⟩) ++ ⟨#[45]⟩) ++ ⟨(decDigits x.2.2.toNat).toArray⟩ else ⟨#[]⟩
theorem joins (a d1 d2 : ByteArray) (ha : a.size ≤ 8) (h1 : d1.size ≤ 13) (h2 : d2.size ≤ 13) : ∃ t1 t2 t3 : ByteArray,
  (∀ w, (Op.stringOp .add a ⟨#[45]⟩).run Tryz.prog w = .ok (.string t1) w) ∧ (∀ w, (Op.stringOp .add t1 d1).run Tryz.prog w = .ok (.string t2) w) ∧ (∀ w, (Op.stringOp .add t2 ⟨#[45]⟩).run Tryz.prog w = .ok (.string t3) w) ∧
  (∀ w, (Op.stringOp .add t3 d2).run Tryz.prog w = .ok (.string ((((a ++ ⟨#[45]⟩) ++ d1) ++ ⟨#[45]⟩) ++ d2)) w) := by
 have e : (⟨#[45]⟩ : ByteArray).size = 1 := rfl
 refine ⟨_, _, _, fun w => run_string_add_sum w _ _ ?_, fun w => run_string_add_sum w _ _ ?_, fun w => run_string_add_sum w _ _ ?_, fun w => run_string_add_sum w _ _ ?_⟩
 all_goals
  simp only [ByteArray.size_append, e]
  omega
theorem ptext_in (x : Pl) (w : World) (s : Nat → Addr) (hz : x.1.size ≤ maxLen) (hs : Two w s) (hp : Pow w) (h : okP x = true) :
  Calls Tryz.prog 74 #[agP x] w fun e w' => e = .returned (.string (ptext x)) ∧ Below w.heap.size w w' := by
 have hc := fun w hs => pcheck_any x w s hz hs
 rw [(okP_err x).1 h, errP_zero] at hc
 obtain ⟨hn, a1, a2, a3, a4⟩ := okP_bounds h
 have ha := name_short hn
 unfold ptext
 rw [if_pos h]
 clear h hn
 obtain ⟨a, r, b⟩ := x
 unfold agP at *
 simp only at *
 have hB : ∀ o, Below w.heap.size w (w.alloc o) := fun o => (Below.refl _ w).alloc (Nat.le_refl _) _
 have hl1 := dec_size r.toNat (by omega)
 have hl2 := dec_size b.toNat (by omega)
 have hI1 := fun w1 (hb : Below w.heap.size w w1) => itoa_any r (by omega) (by omega) w1 (hp.below hb)
 have hI2 := fun w1 (hb : Below w.heap.size w w1) => itoa_any b (by omega) (by omega) w1 (hp.below hb)
 have HC : Hid (Calls Tryz.prog 118 #[.agg #[.string a, .int .i64 r, .int .i64 b]] (w.alloc (.cells #[.string a, .int .i64 r, .int .i64 b] 28)) _) := hc _ (hs.below (hB _))
 clear hc hs hp hz
 generalize (⟨(decDigits r.toNat).toArray⟩ : ByteArray) = d1 at *
 generalize (⟨(decDigits b.toNat).toArray⟩ : ByteArray) = d2 at *
 obtain ⟨t1, t2, t3, s1, s2, s3, s4⟩ := joins a d1 d2 ha hl1 hl2
 generalize ((((a ++ ⟨#[45]⟩) ++ d1) ++ ⟨#[45]⟩) ++ d2 : ByteArray) = t4 at *
 clear hl1 hl2 ha
 go_enter Tryz.func74, Tryz.ntmps74
 go_wp2_with (go_at_call 118; refine HC.out.mono ?_; rintro e w1 ⟨rfl, hb⟩; have g0 : w1.cell? ⟨w.heap.size, 0, none⟩ = some (.string a) := (hb.cell (p := ⟨w.heap.size, 0, none⟩) (by simp)).trans (by simp); have g1 : w1.cell? ⟨w.heap.size, 1, none⟩ = some (.int .i64 r) := (hb.cell (p := ⟨w.heap.size, 1, none⟩) (by simp)).trans (by simp); have g2 : w1.cell? ⟨w.heap.size, 2, none⟩ = some (.int .i64 b) := (hb.cell (p := ⟨w.heap.size, 2, none⟩) (by simp)).trans (by simp); have hb1 : Below w.heap.size w w1 := (hB _).trans (hb.mono (by simp)))
 have hbR : ∀ d os, Below w.heap.size w (grow (redrawn w1 d) os) := fun d os => hb1.trans ((below_regrown w1 d os).mono hb1.size)
 have k0 := cell_regrown g0
 have k1 := cell_regrown g1
 have k2 := cell_regrown g2
 have cI1 := fun d os => Calls.regrown_of (w := w1) (hI1 _ (hbR d os))
 have cI2 := fun d os => Calls.regrown_of (w := w1) (hI2 _ (hbR d os))
 clear g0 g1 g2 hb hb1 HC hI1 hI2
 refine wp_region_quiet_below (by kernel_rfl) (by kernel_rfl) ?_
 repeat (quiet_step (first | (go_at_call_of 75 (Value.int .i64 r); exact cI1 _ _) | (go_at_call_of 75 (Value.int .i64 b); exact cI2 _ _)))
 refine wpQuiet_nil ?_
 intro _ hw'
 obtain ⟨⟨dq, osq⟩, hw''⟩ := hw'
 subst hw''
 have hbE := hbR dq osq
 go_wp2
 go_ret
 exact ⟨rfl, hbE⟩
theorem ptext_out (x : Pl) (w : World) (s : Nat → Addr) (hz : x.1.size ≤ maxLen) (hs : Two w s) (h : okP x = false) :
  Calls Tryz.prog 74 #[agP x] w fun e w' => e = .returned (.string (ptext x)) ∧ Below w.heap.size w w' := by
 have hc := fun w hs => pcheck_any x w s hz hs
 have hk : placeErr x ≠ 0 := fun e => by rw [(okP_err x).2 e] at h; cases h
 rw [errP_pos s hk] at hc
 unfold ptext
 rw [h, if_neg (by decide)]
 clear h
 generalize s (placeErr x - 1) = ad at *
 obtain ⟨a, r, b⟩ := x
 unfold agP at *
 simp only at *
 have hB : ∀ o, Below w.heap.size w (w.alloc o) := fun o => (Below.refl _ w).alloc (Nat.le_refl _) _
 have HC : Hid (Calls Tryz.prog 118 #[.agg #[.string a, .int .i64 r, .int .i64 b]] (w.alloc (.cells #[.string a, .int .i64 r, .int .i64 b] 28)) _) := hc _ (hs.below (hB _))
 clear hc hs hz hk
 go_enter Tryz.func74, Tryz.ntmps74
 go_wp2_with (go_at_call 118; refine HC.out.mono ?_; rintro e w1 ⟨rfl, hb⟩)
 go_ret
 exact ⟨rfl, (hB _).trans (hb.mono (by simp))⟩
theorem ptext_any (x : Pl) (w : World) (s : Nat → Addr) (hz : x.1.size ≤ maxLen) (hs : Two w s) (hp : Pow w) :
  Calls Tryz.prog 74 #[agP x] w fun e w' => e = .returned (.string (ptext x)) ∧ Below w.heap.size w w' := by
 cases h : okP x with
 | true => exact ptext_in x w s hz hs hp h
 | false => exact ptext_out x w s hz hs h
structure BoxAt (n : Nat) (x : Pl) (W : World) : Prop where
 c0 : W.cell? ⟨n, 0, none⟩ = some (.string x.1)
 c1 : W.cell? ⟨n, 1, none⟩ = some (.int .i64 x.2.1)
 c2 : W.cell? ⟨n, 2, none⟩ = some (.int .i64 x.2.2)
theorem BoxAt.below {n : Nat} {x : Pl} {W W' : World} (h : BoxAt n x W) (hb : Below W.heap.size W W') : BoxAt n x W' where
 c0 := by rw [hb.cell (p := ⟨n, 0, none⟩) (cell_lt h.c0)]; exact h.c0
 c1 := by rw [hb.cell (p := ⟨n, 1, none⟩) (cell_lt h.c1)]; exact h.c1
 c2 := by rw [hb.cell (p := ⟨n, 2, none⟩) (cell_lt h.c2)]; exact h.c2
theorem BoxAt.new (w : World) (x : Pl) (t n : Nat) (hn : n = w.heap.size) : BoxAt n x (w.alloc (.cells #[.string x.1, .int .i64 x.2.1, .int .i64 x.2.2] t)) where
 c0 := by rw [World.cell?_alloc_at _ _ _ _ hn]; rfl
 c1 := by rw [World.cell?_alloc_at _ _ _ _ hn]; rfl
 c2 := by rw [World.cell?_alloc_at _ _ _ _ hn]; rfl
abbrev boxTwo (w : World) (x y : Pl) : World := (w.alloc (.cells #[.string x.1, .int .i64 x.2.1, .int .i64 x.2.2] 28)).alloc (.cells #[.string y.1, .int .i64 y.2.1, .int .i64 y.2.2] 28)
theorem boxTwo_below (w : World) (x y : Pl) : Below w.heap.size w (boxTwo w x y) := ((Below.refl _ w).alloc (Nat.le_refl _) _).alloc (by simp) _
theorem boxTwo_first (w : World) (x y : Pl) : BoxAt w.heap.size x (boxTwo w x y) := (BoxAt.new w x _ _ rfl).below ((Below.refl _ _).alloc (Nat.le_refl _) _)
theorem boxTwo_second (w : World) (x y : Pl) : BoxAt (w.heap.size + 1) y (boxTwo w x y) := BoxAt.new _ y _ _ (by simp)
def plNum (l : List UInt8) : Bool := isNum 4 (cutA 45 (cutB 45 l)) && isNum 4 (cutB 45 (cutB 45 l))
def plOf (l : List UInt8) : Pl := (⟨(cutA 45 l).toArray⟩, numR 4 (cutA 45 (cutB 45 l)), numR 4 (cutB 45 (cutB 45 l)))
def zeroP : Pl := (⟨#[]⟩, 0, 0)
def readP (l : List UInt8) : Pl × Nat := if plNum l then (if placeErr (plOf l) = 0 then (plOf l, 0) else (zeroP, placeErr (plOf l))) else (zeroP, 1)
theorem scut_any (s : ByteArray) (c : UInt8) (w : World) (hz : s.size ≤ maxLen) :
  Calls Tryz.prog 70 #[.string s, .string ⟨#[c]⟩] w fun e w' => e = .returned (.tuple #[.string ⟨(cutA c s.data.toList).toArray⟩, .string ⟨(cutB c s.data.toList).toArray⟩, .bool (has c s.data.toList)]) ∧ ∃ n, w' = w.drewN n := by
 unfold cutA cutB
 cases h : has c s.data.toList with
 | true => exact scut_hit s c w hz h
 | false =>
  refine (scut_miss s c w h).mono ?_
  rintro e w' ⟨rfl, rfl⟩
  refine ⟨?_, 0, rfl⟩
  have e : (⟨s.data.toList.toArray⟩ : ByteArray) = s := by cases s; simp
  simp [e]; rfl
theorem below_set3 {B n : Nat} {w W : World} (hb : Below B w W) (hn : B ≤ n) (a b c : Value) : Below B w (((W.setCell ⟨n, 0, none⟩ a).setCell ⟨n, 1, none⟩ b).setCell ⟨n, 2, none⟩ c) :=
 ((hb.setCell (p := ⟨n, 0, none⟩) hn _).setCell (p := ⟨n, 1, none⟩) hn _).setCell (p := ⟨n, 2, none⟩) hn _
theorem parts_p (s : ByteArray) (w : World) (hz : s.size ≤ maxLen) :
  Calls Tryz.prog 164 #[.string s] w fun e w' => e = .returned (.tuple #[agP (plOf s.data.toList), .bool (plNum s.data.toList)]) ∧ Below w.heap.size w w' := by
 have hl0 : s.data.toList.length ≤ maxLen := by rw [size_len]; exact hz
 have hlB := cutB_le 45 s.data.toList
 have hlA := cutA_le 45 (cutB 45 s.data.toList)
 have hlC := cutB_le 45 (cutB 45 s.data.toList)
 have h1 := fun w => scut_any s 45 w hz
 have h2 := fun w => scut_any ⟨(cutB 45 s.data.toList).toArray⟩ 45 w (by rw [mk_size]; omega)
 have h3 := fun w => numRead ⟨(cutA 45 (cutB 45 s.data.toList)).toArray⟩ 4 w (by decide) (by rw [mk_size]; omega)
 have h4 := fun w => numRead ⟨(cutB 45 (cutB 45 s.data.toList)).toArray⟩ 4 w (by decide) (by rw [mk_size]; omega)
 simp only at h2 h3 h4
 unfold plOf plNum agP
 simp only
 generalize (⟨(cutA 45 s.data.toList).toArray⟩ : ByteArray) = zA at *
 generalize has 45 s.data.toList = q1 at *
 generalize has 45 (cutB 45 s.data.toList) = q2 at *
 generalize numR 4 (cutA 45 (cutB 45 s.data.toList)) = n1 at *
 generalize numR 4 (cutB 45 (cutB 45 s.data.toList)) = n2 at *
 generalize isNum 4 (cutA 45 (cutB 45 s.data.toList)) = b1 at *
 generalize isNum 4 (cutB 45 (cutB 45 s.data.toList)) = b2 at *
 generalize (⟨(cutA 45 (cutB 45 s.data.toList)).toArray⟩ : ByteArray) = sA at *
 generalize (⟨(cutB 45 (cutB 45 s.data.toList)).toArray⟩ : ByteArray) = sC at *
 generalize (⟨(cutB 45 s.data.toList).toArray⟩ : ByteArray) = sB at *
 clear hl0 hlB hlA hlC hz
 cases b1
 all_goals
  go_enter Tryz.func164, Tryz.ntmps164
  go_wp2_with (first
   | (go_at_call_of 70 (Value.string s); refine (h1 _).mono ?_; rintro e w1 ⟨rfl, n, rfl⟩)
   | (go_at_call_of 70 (Value.string sB); refine (h2 _).mono ?_; rintro e w2 ⟨rfl, m, rfl⟩)
   | (go_at_call_of 112 (Value.string sA); refine (h3 _).mono ?_; rintro e w3 ⟨rfl, rfl⟩)
   | (go_at_call_of 112 (Value.string sC); refine (h4 _).mono ?_; rintro e w4 ⟨rfl, rfl⟩))
  refine bodyPost_ret (v := .tuple #[.agg #[.string zA, .int .i64 n1, .int .i64 n2], .bool _]) (by simp [results, Tryz.results164, go_sem]) rfl ⟨rfl, ?_⟩
  exact below_set3 (below_drewN ((Below.refl _ w).alloc (Nat.le_refl _) _) _) (Nat.le_refl _) _ _ _
abbrev made (w : World) : World := w.alloc (.cells #[.string ⟨#[]⟩, .int .i64 0, .int .i64 0] 28)
theorem read_no (x : ByteArray) (w : World) (s : Nat → Addr) (hz : x.size ≤ maxLen) (hs : Three w s) (h : plNum x.data.toList = false) :
  Calls Tryz.prog 113 #[.string x] w fun e w' => e = .returned (.tuple #[agP zeroP, err (s 0)]) ∧ Below w.heap.size w w' := by
 have hB : Below w.heap.size w (made w) := (Below.refl _ w).alloc (Nat.le_refl _) _
 have hp := parts_p x (made w) hz
 rw [h] at hp
 clear h
 generalize plOf x.data.toList = pp at hp
 obtain ⟨a, r, b⟩ := pp
 unfold agP zeroP made at *
 simp only at *
 have HP : Hid (Calls Tryz.prog 164 _ _ _) := hp
 have HB : Hid (Below _ _ _) := hB
 have hgl := cell_lt hs.text
 clear hp hB hz
 go_enter Tryz.func113, Tryz.ntmps113
 go_wp2_with (go_at_call 164; refine HP.out.mono ?_; rintro e w1 ⟨rfl, hb⟩; obtain ⟨hc, hf⟩ := bcell hb; have hbw : Below w.heap.size w w1 := HB.out.trans (hb.mono HB.out.size); have hz1 : w.heap.size < w1.heap.size := (by have := hb.size; simp at this; omega))
 have hT : ∀ o, (w1.alloc o).cell? ⟨6, 0, none⟩ = some (err (s 0)) := fun o => (hs.below (hbw.alloc hbw.size o)).text
 have hK : ∀ o a b c, ((((w1.setCell ⟨w.heap.size, 0, none⟩ a).setCell ⟨w.heap.size, 1, none⟩ b).setCell ⟨w.heap.size, 2, none⟩ c).alloc o).drew.cell? ⟨6, 0, none⟩ = some (err (s 0)) := fun o a b c => (hs.below ((below_set3 hbw (Nat.le_refl _) a b c).alloc (below_set3 hbw (Nat.le_refl _) a b c).size o)).text
 go_region_held3 (fun w' => w'.cell? ⟨6, 0, none⟩ = some (err (s 0))) (first | go_keep | exact hK _ _ _ _) (fail)
 go_wp2
 exact bodyPost_ret (v := .tuple #[.agg #[.string ⟨#[]⟩, .int .i64 0, .int .i64 0], err (s 0)]) (by simp [results, Tryz.results113, go_sem, hc, hz1]) rfl ⟨rfl, ((below_set3 hbw (Nat.le_refl _) _ _ _).alloc (below_set3 hbw (Nat.le_refl _) _ _ _).size _).drew⟩
theorem read_yes (x : ByteArray) (w : World) (s : Nat → Addr) (hz : x.size ≤ maxLen) (hs : Three w s) (h : plNum x.data.toList = true) (h0 : placeErr (plOf x.data.toList) = 0) :
  Calls Tryz.prog 113 #[.string x] w fun e w' => e = .returned (.tuple #[agP (plOf x.data.toList), .nilIface]) ∧ Below w.heap.size w w' := by
 have hB : Below w.heap.size w (made w) := (Below.refl _ w).alloc (Nat.le_refl _) _
 have hp := parts_p x (made w) hz
 have hzA : (plOf x.data.toList).1.size ≤ maxLen := by
  show (⟨(cutA 45 x.data.toList).toArray⟩ : ByteArray).size ≤ maxLen
  have := cutA_le 45 x.data.toList
  rw [mk_size]; rw [size_len] at this; omega
 have hch := fun w1 (hb : Below w.heap.size w w1) => pcheck_any (plOf x.data.toList) w1 s hzA (hs.two.below hb)
 rw [h0, errP_zero] at hch
 rw [h] at hp
 clear h h0 hzA
 generalize plOf x.data.toList = pp at *
 obtain ⟨a, r, b⟩ := pp
 unfold agP made at *
 simp only at *
 have HP : Hid (Calls Tryz.prog 164 _ _ _) := hp
 have HB : Hid (Below _ _ _) := hB
 clear hp hB hz hs
 go_enter Tryz.func113, Tryz.ntmps113
 go_wp2_with (first
  | (go_at_call 164; refine HP.out.mono ?_; rintro e w1 ⟨rfl, hb⟩; obtain ⟨hc, hf⟩ := bcell hb; have hbw : Below w.heap.size w w1 := HB.out.trans (hb.mono HB.out.size); have hz1 : w.heap.size < w1.heap.size := (by have := hb.size; simp at this; omega))
  | (go_at_call 118; refine (hch _ (hbw.alloc hbw.size _)).mono ?_; rintro e w2 ⟨rfl, hb2⟩; obtain ⟨hc2, hf2⟩ := bcell hb2; have hbw2 : Below w.heap.size w w2 := (hbw.alloc hbw.size _).trans (hb2.mono (by simp; omega)); have hz2 : w1.heap.size < w2.heap.size := (by have := hb2.size; simp at this; omega)))
 obtain ⟨r0, r1, r2⟩ := (((BoxAt.new w zeroP 28 _ rfl).below hb).below ((Below.refl _ _).alloc (Nat.le_refl _) _)).below hb2
 exact bodyPost_ret (v := .tuple #[.agg #[.string a, .int .i64 r, .int .i64 b], .nilIface]) (by simp [results, Tryz.results113, go_sem, r0, r1, r2]) rfl ⟨rfl, below_set3 hbw2 (Nat.le_refl _) _ _ _⟩
theorem read_err (x : ByteArray) (w : World) (s : Nat → Addr) (hz : x.size ≤ maxLen) (hs : Three w s) (h : plNum x.data.toList = true) (h0 : placeErr (plOf x.data.toList) ≠ 0) :
  Calls Tryz.prog 113 #[.string x] w fun e w' => e = .returned (.tuple #[agP zeroP, errP s (placeErr (plOf x.data.toList))]) ∧ Below w.heap.size w w' := by
 have hB : Below w.heap.size w (made w) := (Below.refl _ w).alloc (Nat.le_refl _) _
 have hp := parts_p x (made w) hz
 have hzA : (plOf x.data.toList).1.size ≤ maxLen := by
  show (⟨(cutA 45 x.data.toList).toArray⟩ : ByteArray).size ≤ maxLen
  have := cutA_le 45 x.data.toList
  rw [mk_size]; rw [size_len] at this; omega
 have hch := fun w1 (hb : Below w.heap.size w w1) => pcheck_any (plOf x.data.toList) w1 s hzA (hs.two.below hb)
 rw [errP_pos s h0] at hch ⊢
 rw [h] at hp
 clear h h0 hzA
 generalize s (placeErr (plOf x.data.toList) - 1) = ad at *
 generalize plOf x.data.toList = pp at *
 obtain ⟨a, r, b⟩ := pp
 unfold agP made zeroP at *
 simp only at *
 have HP : Hid (Calls Tryz.prog 164 _ _ _) := hp
 have HB : Hid (Below _ _ _) := hB
 clear hp hB hz hs
 go_enter Tryz.func113, Tryz.ntmps113
 go_wp2_with (first
  | (go_at_call 164; refine HP.out.mono ?_; rintro e w1 ⟨rfl, hb⟩; obtain ⟨hc, hf⟩ := bcell hb; have hbw : Below w.heap.size w w1 := HB.out.trans (hb.mono HB.out.size); have hz1 : w.heap.size < w1.heap.size := (by have := hb.size; simp at this; omega))
  | (go_at_call 118; refine (hch _ (hbw.alloc hbw.size _)).mono ?_; rintro e w2 ⟨rfl, hb2⟩; obtain ⟨hc2, hf2⟩ := bcell hb2; have hbw2 : Below w.heap.size w w2 := (hbw.alloc hbw.size _).trans (hb2.mono (by simp; omega)); have hz2 : w1.heap.size < w2.heap.size := (by have := hb2.size; simp at this; omega)))
 obtain ⟨r0, r1, r2⟩ := (((BoxAt.new w zeroP 28 _ rfl).below hb).below ((Below.refl _ _).alloc (Nat.le_refl _) _)).below hb2
 exact bodyPost_ret (v := .tuple #[.agg #[.string ⟨#[]⟩, .int .i64 0, .int .i64 0], err ad]) (by simp [results, Tryz.results113, go_sem, r0, r1, r2]) rfl ⟨rfl, below_set3 hbw2 (Nat.le_refl _) _ _ _⟩
theorem pread_any (x : ByteArray) (w : World) (s : Nat → Addr) (hz : x.size ≤ maxLen) (hs : Three w s) :
  Calls Tryz.prog 113 #[.string x] w fun e w' => e = .returned (.tuple #[agP (readP x.data.toList).1, errP s (readP x.data.toList).2]) ∧ Below w.heap.size w w' := by
 cases h : plNum x.data.toList with
 | false =>
  have e : readP x.data.toList = (zeroP, 1) := by unfold readP; rw [h]; rfl
  rw [e]
  exact read_no x w s hz hs h
 | true =>
  by_cases h0 : placeErr (plOf x.data.toList) = 0
  ·have e : readP x.data.toList = (plOf x.data.toList, 0) := by unfold readP; rw [if_pos h, if_pos h0]
   rw [e]
   exact read_yes x w s hz hs h h0
  ·have e : readP x.data.toList = (zeroP, placeErr (plOf x.data.toList)) := by unfold readP; rw [if_pos h, if_neg h0]
   rw [e]
   exact read_err x w s hz hs h h0
theorem placeError_any (x : Pl) (w : World) (hz : x.1.size ≤ maxLen) :
  Calls Tryz.prog 130 #[agP x] w fun e w' => e = .returned (.int .i64 (placeErr x)) ∧ Below w.heap.size w w' := by
 obtain ⟨a, r, b⟩ := x
 unfold agP
 simp only at hz ⊢
 have hB : ∀ o, Below w.heap.size w (w.alloc o) := fun o => (Below.refl _ w).alloc (Nat.le_refl _) _
 have hn : ∀ w, Calls Tryz.prog 127 #[.string a] w _ := fun w => isName_any a w hz
 cases h1 : isName a.data.toList with
 | false =>
  rw [h1] at hn
  have HE : Hid (placeErr (a, r, b) = 5) := by
   show _ = _
   unfold placeErr; simp only [h1]; rfl
  go_enter Tryz.func130, Tryz.ntmps130
  go_wp2_with (go_at_call 127; refine (hn _).mono ?_; rintro e w1 ⟨rfl, rfl⟩)
  go_ret
  exact ⟨by rw [HE.out]; rfl, hB _⟩
 | true =>
  rw [h1] at hn
  have h2 : (1 ≤ r ∧ r ≤ 20 ∧ 1 ≤ b ∧ b ≤ 40) ∨ (r < 1) ∨ (1 ≤ r ∧ 20 < r) ∨ (1 ≤ r ∧ r ≤ 20 ∧ b < 1) ∨ (1 ≤ r ∧ r ≤ 20 ∧ 1 ≤ b ∧ 40 < b) := by omega
  rcases h2 with ⟨q1, q2, q3, q4⟩ | h2
  ·have HE : Hid (placeErr (a, r, b) = 0) := by
    show _ = _
    have : well r b = true := by unfold well; simp [q1, q2, q3, q4]
    unfold placeErr; simp only [h1, this]; rfl
   go_enter Tryz.func130, Tryz.ntmps130
   go_wp2_with (go_at_call 127; refine (hn _).mono ?_; rintro e w1 ⟨rfl, rfl⟩)
   go_ret
   exact ⟨by rw [HE.out]; rfl, hB _⟩
  ·have HE : Hid (placeErr (a, r, b) = 2) := by
    show _ = _
    have : well r b = false := by unfold well; simp; omega
    unfold placeErr; simp only [h1, this]; rfl
   rcases h2 with h2 | ⟨q1, q2⟩ | ⟨q1, q2, q3⟩ | ⟨q1, q2, q3, q4⟩
   all_goals
    go_enter Tryz.func130, Tryz.ntmps130
    go_wp2_with (go_at_call 127; refine (hn _).mono ?_; rintro e w1 ⟨rfl, rfl⟩)
    go_ret
    exact ⟨by rw [HE.out]; rfl, hB _⟩
theorem isAhead_any (x y : Pl) (w : World) : Calls Tryz.prog 204 #[agP x, agP y] w fun e w' => e = .returned (.bool (aheadP x y)) ∧ Below w.heap.size w w' := by
 obtain ⟨a, r, b⟩ := x
 obtain ⟨a', r', b'⟩ := y
 unfold agP
 simp only
 have hB : ∀ o o', Below w.heap.size w ((w.alloc o).alloc o') := fun o o' => ((Below.refl _ w).alloc (Nat.le_refl _) _).alloc (by simp) _
 have e1 := less_eq a a'
 by_cases hz : a = a'
 ·subst hz
  by_cases hr : r = r'
  ·subst hr
   by_cases hp : r.tmod 2 = 0
   ·have hp' : (r.tmod 2 == 0) = true := by simpa using hp
    have HE : Hid (aheadP (a, r, b) (a, r, b') = decide (b' < b)) := by
     show _ = _
     rw [Bool.eq_iff_iff, aheadP_iff]; unfold aheadW; simp [zLt_irrefl, hp]
    clear hp e1
    go_enter Tryz.func204, Tryz.ntmps204
    go_wp2
    go_ret
    exact ⟨by rw [HE.out]; rfl, hB _ _⟩
   ·have hp' : (r.tmod 2 == 0) = false := by simpa using hp
    have HE : Hid (aheadP (a, r, b) (a, r, b') = decide (b < b')) := by
     show _ = _
     rw [Bool.eq_iff_iff, aheadP_iff]; unfold aheadW; simp [zLt_irrefl, hp]
    clear hp e1
    go_enter Tryz.func204, Tryz.ntmps204
    go_wp2
    go_ret
    exact ⟨by rw [HE.out]; rfl, hB _ _⟩
  ·have hr' : (r == r') = false := by simpa using hr
   have HE : Hid (aheadP (a, r, b) (a, r', b') = decide (r < r')) := by
    show _ = _
    rw [Bool.eq_iff_iff, aheadP_iff]; unfold aheadW; simp [zLt_irrefl, hr]
   clear hr e1
   go_enter Tryz.func204, Tryz.ntmps204
   go_wp2
   go_ret
   exact ⟨by rw [HE.out]; rfl, hB _ _⟩
 ·have e3 := same_eq a a'
  rw [decide_eq_false hz] at e3
  have HE : Hid (aheadP (a, r, b) (a', r', b') = zLt a a') := by
   show _ = _
   rw [Bool.eq_iff_iff, aheadP_iff]; unfold aheadW; simp [hz]
  have H1 : Hid (Op.bytesLess a.toList a'.toList = zLt a a') := e1
  clear e1 hz
  go_enter Tryz.func204, Tryz.ntmps204
  go_wp2
  go_ret
  exact ⟨by rw [HE.out, ← H1.out]; rfl, hB _ _⟩
theorem coded_nil2 (n : Int) (w : World) : Calls Tryz.prog 39 #[.nilIface, .int .i64 n] w fun e w' => e = .returned (.bool (decide (0 = n))) ∧ w' = w := by
 go_enter Tryz.func39, Tryz.ntmps39
 by_cases h : (0 : Int) = n
 ·subst h
  go_wp2_with (go_at_call 67; refine (code_nil _).mono ?_; rintro e w1 ⟨rfl, rfl⟩)
  go_ret
  exact ⟨rfl, rfl⟩
 ·have hb : ((0 : Int) == n) = false := by simpa using h
  go_wp2_with (go_at_call 67; refine (code_nil _).mono ?_; rintro e w1 ⟨rfl, rfl⟩)
  go_ret
  exact ⟨by simp [h], rfl⟩
theorem coded_of2 (v : Value) (c n : Int) (w : World) (B : Nat) (hv : Calls Tryz.prog 67 #[v] w fun e w' => e = .returned (.tuple #[.int .i64 c, .int .i64 (-1)]) ∧ Below B w w') :
  Calls Tryz.prog 39 #[v, .int .i64 n] w fun e w' => e = .returned (.bool (decide (c = n))) ∧ Below B w w' := by
 go_enter Tryz.func39, Tryz.ntmps39
 have H : Hid (Calls Tryz.prog 67 #[v] w fun e w' => e = .returned (.tuple #[.int .i64 c, .int .i64 (-1)]) ∧ Below B w w') := hv
 clear hv
 by_cases h : c = n
 ·subst h
  go_wp2_with (go_at_call 67; refine H.out.mono ?_; rintro e w1 ⟨rfl, hb⟩)
  go_ret
  exact ⟨by simp, hb⟩
 ·have hb : (c == n) = false := by simpa using h
  go_wp2_with (go_at_call 67; refine H.out.mono ?_; rintro e w1 ⟨rfl, hb⟩)
  go_ret
  exact ⟨by simp [h], ‹Below B w w1›⟩
theorem codedP_any2 (s : Nat → Addr) (code : Nat) (hc : code ≤ 12) (n : Int) (w : World) (hs : Sent w s) (hh : Handle w) :
  Calls Tryz.prog 39 #[errP s code, .int .i64 n] w fun e w' => e = .returned (.bool (decide ((code : Int) = n))) ∧ Below w.heap.size w w' := by
 rcases code with _ | k
 ·rw [errP_zero]
  refine (coded_nil2 n w).mono ?_
  rintro e w' ⟨rfl, rfl⟩
  exact ⟨rfl, Below.refl _ _⟩
 ·rw [errP_pos s (by omega)]
  refine (coded_of2 _ _ n w _ (code_sent k (by omega) w s hs hh)).mono ?_
  rintro e w' ⟨rfl, hb⟩
  exact ⟨rfl, hb⟩
end Go.Proofs.YteomomeigbfeoaaGreatDoor
namespace Go.Proofs.YteomomeigbfeoaaGreatDoor
open Go.ChangeShapes Go.WideShapes Go.RowKit
theorem Tryz.gPow : Tryz.prog.globalNamed "internal/strconv.uint64pow10" = some 14 := by kernel_rfl
theorem Tryz.gPowType : (Tryz.prog.globals[14]?).map (·.type) = some 286 := by kernel_rfl
theorem Tryz.cellsPow : Tryz.prog.cellsOf 286 = 20 := by kernel_rfl
theorem Tryz.cellsU64 : Tryz.prog.cellsOf 228 = 1 := by kernel_rfl
theorem pow_of_laid {W : World} {rest : List (String × DataW Unit)} (h : laidMet Tryz.prog (("internal/strconv.uint64pow10", Rows.laid_internal_strconv_uint64pow10) :: rest) W) : Pow W :=
 Lib.tabIs_of_head (k := .u64) (zs := Lib.pow10Tab) Tryz.gPow Tryz.gPowType Tryz.underlying286 Tryz.underlying228 Tryz.cellsU64 Tryz.cellsPow h
end Go.Proofs.YteomomeigbfeoaaGreatDoor
