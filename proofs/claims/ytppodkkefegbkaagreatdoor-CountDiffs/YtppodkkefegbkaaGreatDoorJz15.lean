/-
 Plain mathematics of counts: behind entries of what a sheet tells, done one by one with no error, the stock is what was seen, and the same sheet tells nothing. 
-/
import Derived.Test.YtppodkkefegbkaaGreatDoorJz9
import Derived.Test.YtppodkkefegbkaaGreatDoorJz12
import Derived.Test.YtppodkkefegbkaaGreatDoorJz6
import Derived.Test.YtppodkkefegbkaaGreatDoorJz3
import Derived.Laws.StructEq
import Derived.BigQuiet
import Derived.Test.YtppodkkefegbkaaGreatDoorJz2
import Derived.Test.YtppodkkefegbkaaGreatDoorJz4
import Derived.Test.YtppodkkefegbkaaGreatDoorJz14
import Derived.Deep.RegionHeld3
import Derived.Lib.QuietBelow
import Derived.Deep.AppendLies
import Derived.Test.YtppodkkefegbkaaGreatDoorJz11
import Derived.ProofKit
import Derived.OpenShut
import Derived.Stop.Joined
import Derived.Lib.SmallJoins
import Derived.Deep.Slices
import Derived.Laws.Bits64
import Derived.Deep.CutBlock
import Derived.Deep.CutRange
import Derived.Test.YtppodkkefegbkaaGreatDoorGenS
set_option maxRecDepth 100000
set_option maxHeartbeats 16000000
namespace Go.Proofs.YtppodkkefegbkaaGreatDoor
open Go.Lib Go.Sort
end Go.Proofs.YtppodkkefegbkaaGreatDoor
namespace Go.Proofs.YtppodkkefegbkaaGreatDoor
open Go.RowKit Go.Lib Go.Sort
structure Lns (w : World) (q o : Nat) (l : List Ln) : Prop where
 lt : q < w.heap.size
 at_ : ∀ k x, l[k]? = some x → LineAt w q (o + k * 5) x
theorem Lns.below {w w' : World} {B q o : Nat} {l : List Ln} (h : Lns w q o l) (hB : q < B) (hb : Below B w w') : Lns w' q o l :=
 ⟨Nat.lt_of_lt_of_le h.lt hb.size, fun k x hk => (h.at_ k x hk).of_block (hb.block q hB)⟩
abbrev ShIn (w : World) (pp : Option Addr) (l : List Ln) : Prop := l = [] ∨ ∃ bq off, pp = some ⟨bq, off, none⟩ ∧ Lns w bq off l
theorem ShIn.on {w W : World} {pp : Option Addr} {l : List Ln} (h : ShIn w pp l) (hb : Below w.heap.size w W) : ShIn W pp l := h.imp id fun ⟨bq, off, h1, h2⟩ => ⟨bq, off, h1, h2.below h2.lt hb⟩
theorem ShIn.line {w W : World} {pp : Option Addr} {l : List Ln} (h : ShIn w pp l) (hb : Below w.heap.size w W) {k : Nat} {x : Ln} (hx : l[k]? = some x) : ∃ bq off, pp = some ⟨bq, off, none⟩ ∧ LineAt W bq (off + k * 5) x := by
 rcases h.on hb with rfl | ⟨bq, off, h1, h2⟩
 ·simp at hx
 ·exact ⟨bq, off, h1, h2.at_ k x hx⟩
def SzL (x : Ln) : Prop := x.1.1.size ≤ maxLen ∧ x.2.1.size ≤ maxLen
def longL (x : Ln) : Bool := decide (30 < x.1.1.size) || decide (30 < x.2.1.size)
def longsL (l : List Ln) : Bool := l.any longL
def longN (l : List Ln) : Int := if longsL l then 1 else 0
theorem longsL_yes {l : List Ln} {k : Nat} {x : Ln} (h : l[k]? = some x) (hx : longL x = true) : longsL l = true := List.any_eq_true.2 ⟨x, List.mem_of_getElem? h, hx⟩
theorem longsL_no {l : List Ln} (h : ∀ x ∈ l, longL x = false) : longsL l = false := by
 unfold longsL
 rw [List.any_eq_false]
 intro x hx
 rw [h x hx]; decide
theorem takeS_next {l : List Ln} {k : Nat} {x : Ln} {P : Ln → Prop} (hl : l[k]? = some x) (h : ∀ y ∈ l.take k, P y) (h1 : P x) : ∀ y ∈ l.take (k + 1), P y := by
 obtain ⟨hk, e⟩ := List.getElem?_eq_some_iff.1 hl
 rw [List.take_succ_eq_append_getElem hk, e]
 intro y hy
 rcases List.mem_append.1 hy with hy | hy
 ·exact h y hy
 ·rw [List.mem_singleton.1 hy]; exact h1
theorem Tryz.guardPs : Tryz.prog.eqGuardType Tryz.prog.depth 41 = false := by kernel_rfl
theorem eqPl_run (a a' : ByteArray) (r b r' b' : Int) (w : World) : (Op.equalIn 10000 41 (.agg #[.string a, .int .i64 r, .int .i64 b]) (.agg #[.string a', .int .i64 r', .int .i64 b'])).run Tryz.prog w = .ok (decide ((a, r, b) = (a', r', b'))) w := by
 have u3 := Tryz.underlying3
 have a3 := Tryz.isAgg3
 have z3 := Tryz.sizeOf3
 have u9 := Tryz.underlying9
 have a9 := Tryz.isAgg9
 have z9 := Tryz.sizeOf9
 have hS : Tryz.prog.underlying 41 = some (.struct (Tryz.prog.fieldsOf 41)) := by kernel_rfl
 have hp : Tryz.prog.stoodInHeld 41 = false := by kernel_rfl
 rw [show (10000 : Nat) = 9999 + 1 from rfl, run_equalIn_agg w 9999 41 _ _ hS hp]
 simp only [Program.fieldsOf, Tryz.underlying41]
 have e3 := same_eq a a'
 go_simp
 by_cases h1 : a = a' <;> by_cases h2 : r = r' <;> by_cases h3 : b = b' <;> simp [h1, h2, h3]
theorem lsheet_many (ad : Option Addr) (n cap : Nat) (w : World) (h : 30 < n) :
  Calls Tryz.prog 8 #[.slice ad n cap] w fun r w' => r = .returned (.int .i64 1) ∧ w' = w := by
 have h9 : (30 : Int) < (n : Int) := by omega
 go_enter Tryz.func8, Tryz.ntmps8
 go_wp2
 go_ret
 exact ⟨rfl, rfl⟩
theorem lsheet_any (pp : Option Addr) (l : List Ln) (cap : Nat) (w : World) (h : ShIn w pp l) (hn : l.length ≤ 30) (hz : ∀ x ∈ l, SzL x) :
  Calls Tryz.prog 8 #[.slice pp l.length cap] w fun r w' => r = .returned (.int .i64 (longN l)) ∧ w' = w := by
 have HE : Hid (∀ k x, l[k]? = some x → ∃ bq off, pp = some ⟨bq, off, none⟩ ∧ LineAt w bq (off + k * 5) x) := fun k x hx => h.line (Below.refl _ w) hx
 have HZ : Hid (∀ x ∈ l, SzL x) := hz
 generalize hln : l.length = ln at *
 have HN : Hid (ln = l.length) := hln.symm
 clear h hz hln
 go_enter Tryz.func8, Tryz.ntmps8
 go_wp2
 go_loopw [3] (fun i wr => ∃ k : Nat, k ≤ ln ∧ i = .int .i64 k ∧ wr = w ∧ ∀ x ∈ l.take k, longL x = false) (fun i _ => ln - (RowKit.intOf i).toNat)
 case atStart => exact ⟨0, Nat.zero_le _, rfl, rfl, by simp⟩
 case round =>
  obtain ⟨k, hk, rfl, rfl, hno⟩ := hrel
  have HNo : Hid (∀ x ∈ l.take k, longL x = false) := hno
  clear hno
  by_cases hlt : k < ln
  ·obtain ⟨x, hx⟩ : ∃ x, l[k]? = some x := ⟨_, List.getElem?_eq_getElem (by rw [← HN.out]; exact hlt)⟩
   have HX : Hid (l[k]? = some x) := hx
   obtain ⟨bq, off, rfl, c0, c1, c2, c3, c4⟩ := HE.out k x hx
   have hz := HZ.out x (List.mem_of_getElem? hx)
   have hz1 := hz.1
   have hz2 := hz.2
   unfold maxLen at hz1 hz2
   clear hx hz
   by_cases h1 : 30 < x.1.1.size
   ·have HL : Hid (longL x = true) := by show _ = _; unfold longL; simp [h1]
    have z1 : (30 : Int) < (x.1.1.size : Int) := by omega
    generalize x.1.1 = za at *
    go_wp2
    go_ret
    exact ⟨by rw [show longN l = 1 by unfold longN; rw [longsL_yes HX.out HL.out]; rfl]; rfl, by first | rfl | trivial⟩
   ·have z1 : ¬ (30 : Int) < (x.1.1.size : Int) := by omega
    have z1' : decide ((x.1.1.size : Int) > 30) = false := decide_eq_false z1
    by_cases h2 : 30 < x.2.1.size
    ·have HL : Hid (longL x = true) := by show _ = _; unfold longL; simp [h2]
     have z2 : (30 : Int) < (x.2.1.size : Int) := by omega
     generalize x.1.1 = za at *
     generalize x.2.1 = zl at *
     go_wp2
     go_ret
     exact ⟨by rw [show longN l = 1 by unfold longN; rw [longsL_yes HX.out HL.out]; rfl]; rfl, by first | rfl | trivial⟩
    ·have HL : Hid (longL x = false) := by show _ = _; unfold longL; simp [h1, h2]
     have z2 : ¬ (30 : Int) < (x.2.1.size : Int) := by omega
     generalize x.1.1 = za at *
     generalize x.2.1 = zl at *
     go_wp2
     go_roundw
     case rel => exact ⟨k + 1, by omega, by go_num, by first | rfl | trivial, takeS_next HX.out HNo.out HL.out⟩
     case measure => simp [RowKit.intOf]; omega
  ·have e : l.take k = l := List.take_of_length_le (by rw [← HN.out]; omega)
   have HE' : Hid (∀ x ∈ l, longL x = false) := fun x hx => HNo.out x (by rw [e]; exact hx)
   clear e
   go_wp2
   go_ret
   exact ⟨by rw [show longN l = 0 by unfold longN; rw [longsL_no HE'.out]; rfl]; rfl, by first | rfl | trivial⟩
theorem sameW {k z : ByteArray} (h : k = z) : (k.toList == z.data.toList) = true := by
 have := same_eq k z
 rw [decide_eq_true h, Lib.toList_data z] at this
 exact this
theorem otherW {k z : ByteArray} (h : k ≠ z) : (k.toList == z.data.toList) = false := by
 have := same_eq k z
 rw [decide_eq_false h, Lib.toList_data z] at this
 exact this
theorem wrap64_eq (n : Int) : wrap64 n = IntKind.i64.wrap n := by rw [IntKind.wrap_i64, wrap64]
theorem dueC_of {c : ByteArray} {last day days D : Int} (hd : daysC c = days) (h0 : 0 ≤ days) (hD : IntKind.i64.wrap (day - days) = D) : dueC c last day = if day < last then false else (decide (last ≤ D) && decide (D ≤ day)) := by
 unfold dueC
 rw [hd, hD]
 by_cases h : day < last
 ·rw [if_pos (Or.inr h), if_pos h]
 ·rw [if_neg (by omega), if_neg h]
theorem due_any (c : ByteArray) (last day : Int) (w : World) :
  Calls Tryz.prog 18 #[.string c, .int .i64 last, .int .i64 day] w fun r w' => r = .returned (.bool (dueC c last day)) ∧ w' = w := by
 have hn : clA ≠ clB ∧ clA ≠ clC ∧ clB ≠ clC := by decide
 obtain ⟨n1, n2, n3⟩ := hn
 by_cases hA : c = clA
 ·have x1 := sameW hA
  obtain ⟨D, hD⟩ : ∃ D, IntKind.i64.wrap (day - 30) = D := ⟨_, rfl⟩
  have hq := dueC_of (last := last) (show daysC c = 30 by unfold daysC; rw [if_pos hA]) (by decide) hD
  clear hA n1 n2 n3
  by_cases h1 : day < last
  ·rw [if_pos h1] at hq
   rw [hq]
   have h1d : decide (day < last) = true := decide_eq_true h1
   clear hq
   go_enter Tryz.func18, Tryz.ntmps18
   go_wp2
   go_ret
   exact ⟨rfl, rfl⟩
  ·rw [if_neg h1] at hq
   have h1d : decide (day < last) = false := decide_eq_false h1
   have hDw : wrap64 (day - 30) = D := by rw [wrap64_eq]; exact hD
   rcases Classical.em (last ≤ D) with h2 | h2 <;> rcases Classical.em (D ≤ day) with h3 | h3
   all_goals
    first | rw [decide_eq_true h2] at hq | rw [decide_eq_false h2] at hq
    first | rw [decide_eq_true h3] at hq | rw [decide_eq_false h3] at hq
    rw [hq]
    clear hq
    go_enter Tryz.func18, Tryz.ntmps18
    go_wp2
    go_ret
    exact ⟨rfl, rfl⟩
 by_cases hB : c = clB
 ·have x1 := otherW hA
  have x2 := sameW hB
  obtain ⟨D, hD⟩ : ∃ D, IntKind.i64.wrap (day - 90) = D := ⟨_, rfl⟩
  have hq := dueC_of (last := last) (show daysC c = 90 by unfold daysC; rw [if_neg hA, if_pos hB]) (by decide) hD
  clear hA n1 n2 n3 hB
  by_cases h1 : day < last
  ·rw [if_pos h1] at hq
   rw [hq]
   have h1d : decide (day < last) = true := decide_eq_true h1
   clear hq
   go_enter Tryz.func18, Tryz.ntmps18
   go_wp2
   go_ret
   exact ⟨rfl, rfl⟩
  ·rw [if_neg h1] at hq
   have h1d : decide (day < last) = false := decide_eq_false h1
   have hDw : wrap64 (day - 90) = D := by rw [wrap64_eq]; exact hD
   rcases Classical.em (last ≤ D) with h2 | h2 <;> rcases Classical.em (D ≤ day) with h3 | h3
   all_goals
    first | rw [decide_eq_true h2] at hq | rw [decide_eq_false h2] at hq
    first | rw [decide_eq_true h3] at hq | rw [decide_eq_false h3] at hq
    rw [hq]
    clear hq
    go_enter Tryz.func18, Tryz.ntmps18
    go_wp2
    go_ret
    exact ⟨rfl, rfl⟩
 by_cases hC : c = clC
 ·have x1 := otherW hA
  have x2 := otherW hB
  have x3 := sameW hC
  obtain ⟨D, hD⟩ : ∃ D, IntKind.i64.wrap (day - 180) = D := ⟨_, rfl⟩
  have hq := dueC_of (last := last) (show daysC c = 180 by unfold daysC; rw [if_neg hA, if_neg hB, if_pos hC]) (by decide) hD
  clear hA n1 n2 n3 hB hC
  by_cases h1 : day < last
  ·rw [if_pos h1] at hq
   rw [hq]
   have h1d : decide (day < last) = true := decide_eq_true h1
   clear hq
   go_enter Tryz.func18, Tryz.ntmps18
   go_wp2
   go_ret
   exact ⟨rfl, rfl⟩
  ·rw [if_neg h1] at hq
   have h1d : decide (day < last) = false := decide_eq_false h1
   have hDw : wrap64 (day - 180) = D := by rw [wrap64_eq]; exact hD
   rcases Classical.em (last ≤ D) with h2 | h2 <;> rcases Classical.em (D ≤ day) with h3 | h3
   all_goals
    first | rw [decide_eq_true h2] at hq | rw [decide_eq_false h2] at hq
    first | rw [decide_eq_true h3] at hq | rw [decide_eq_false h3] at hq
    rw [hq]
    clear hq
    go_enter Tryz.func18, Tryz.ntmps18
    go_wp2
    go_ret
    exact ⟨rfl, rfl⟩
 ·have x1 := otherW hA
  have x2 := otherW hB
  have x3 := otherW hC
  have hq : dueC c last day = false := by
   unfold dueC daysC
   rw [if_neg hA, if_neg hB, if_neg hC, if_pos (Or.inl (by decide))]
  rw [hq]
  clear hA hB hC hq n1 n2 n3
  go_enter Tryz.func18, Tryz.ntmps18
  go_wp2
  go_ret
  exact ⟨rfl, rfl⟩
def Txs (w : World) (p : Option Addr) (xs : List ByteArray) : Prop := ∀ i s, xs[i]? = some s → ∃ g o, p = some ⟨g, o, none⟩ ∧ w.cell? ⟨g, o + i, none⟩ = some (.string s)
theorem Txs.below {w w' : World} {p : Option Addr} {xs : List ByteArray} (h : Txs w p xs) (hb : Below w.heap.size w w') : Txs w' p xs := fun i s hi => by
 obtain ⟨g, o, h1, h2⟩ := h i s hi
 exact ⟨g, o, h1, (hb.cell (p := ⟨g, o + i, none⟩) (cell_lt h2)).trans h2⟩
theorem texts_one (p1 p2 : Option Addr) (xs ys : List ByteArray) (c1 c2 : Nat) (w : World) (h1 : Txs w p1 xs) (h2 : Txs w p2 ys) (hl : ys.length = xs.length) (hm : xs.length ≤ 100000) :
  Calls Tryz.prog 19 #[.slice p1 xs.length c1, .slice p2 xs.length c2] w fun r w' => r = .returned (.bool (decide (xs = ys))) ∧ Below w.heap.size w w' := by
 have H1 : Hid (∀ W, Below w.heap.size w W → Txs W p1 xs) := fun W hb => h1.below hb
 have H2 : Hid (∀ W, Below w.heap.size w W → Txs W p2 ys) := fun W hb => h2.below hb
 obtain ⟨ln, hln⟩ : ∃ ln, xs.length = ln := ⟨_, rfl⟩
 have HX : Hid (xs.length = ln) := hln
 have HY : Hid (ys.length = ln) := hl.trans hln
 rw [hln] at hm ⊢
 obtain ⟨rb, hrb⟩ : ∃ rb, decide (xs = ys) = rb := ⟨_, rfl⟩
 have HR : Hid (decide (xs = ys) = rb) := hrb
 rw [hrb]
 clear h1 h2 hl hln hrb
 go_enter Tryz.func19, Tryz.ntmps19
 go_wp2
 go_loopw [5] (fun vi wr => ∃ k : Nat, k ≤ ln ∧ vi = .int .i64 k ∧ (∀ j, j < k → xs[j]? = ys[j]?) ∧ Below w.heap.size w wr) (fun vi _ => ln - (RowKit.intOf vi).toNat)
 case atStart => exact ⟨0, Nat.zero_le _, rfl, fun j hj => absurd hj (Nat.not_lt_zero _), Below.refl _ _⟩
 case round =>
  obtain ⟨k, hk, rfl, hsame, hb⟩ := hrel
  have HS : Hid (∀ j, j < k → xs[j]? = ys[j]?) := hsame
  have HB : Hid (Below w.heap.size w wr) := hb
  clear hsame
  by_cases hlt : k < ln
  ·obtain ⟨x, hx⟩ : ∃ x, xs[k]? = some x := ⟨_, List.getElem?_eq_getElem (by rw [HX.out]; exact hlt)⟩
   obtain ⟨y, hy⟩ : ∃ y, ys[k]? = some y := ⟨_, List.getElem?_eq_getElem (by rw [HY.out]; exact hlt)⟩
   have HXk : Hid (xs[k]? = some x) := hx
   have HYk : Hid (ys[k]? = some y) := hy
   obtain ⟨g, o, rfl, _⟩ := H1.out wr hb k x hx
   obtain ⟨g', o', rfl, _⟩ := H2.out wr hb k y hy
   have s0 : ∀ d, (wr.drewN d).cell? ⟨g, o + k, none⟩ = some (.string x) := fun d => by
    obtain ⟨g9, o9, e9, h9⟩ := H1.out (wr.drewN d) (below_drewN hb d) k x hx
    cases e9
    exact h9
   have s1 : ∀ d, (wr.drewN d).cell? ⟨g', o' + k, none⟩ = some (.string y) := fun d => by
    obtain ⟨g9, o9, e9, h9⟩ := H2.out (wr.drewN d) (below_drewN hb d) k y hy
    cases e9
    exact h9
   have e3 := same_eq x y
   clear hx hy hb
   by_cases hxy : x = y
   ·rw [decide_eq_true hxy] at e3
    have HXY : Hid (x = y) := hxy
    clear hxy
    go_wp2
    go_quiet (fail)
    have HBn : Hid (Below w.heap.size w (wr.drewN nq)) := below_drewN HB.out nq
    clear s0 s1
    generalize wr.drewN nq = w5 at *
    go_wp2
    go_roundw
    case rel => exact ⟨k + 1, by omega, by go_num, fun j hj => by
     rcases Nat.lt_or_ge j k with h9 | h9
     ·exact HS.out j h9
     ·obtain rfl : j = k := by omega
      rw [HXk.out, HYk.out, HXY.out], HBn.out⟩
    case measure => simp [RowKit.intOf]; omega
   ·rw [decide_eq_false hxy] at e3
    have HF : Hid (rb = false) := by
     show _ = _
     rw [← HR.out]
     refine decide_eq_false fun e => hxy ?_
     have h8 := HXk.out
     rw [e, HYk.out] at h8
     exact (Option.some.inj h8).symm
    clear hxy
    go_wp2
    go_quiet (fail)
    have HBn : Hid (Below w.heap.size w (wr.drewN nq)) := below_drewN HB.out nq
    clear s0 s1
    generalize wr.drewN nq = w5 at *
    go_wp2
    go_ret
    exact ⟨by rw [HF.out]; rfl, HBn.out⟩
  ·have HT : Hid (rb = true) := by
    show _ = _
    rw [← HR.out]
    refine decide_eq_true (List.ext_getElem? fun j => ?_)
    rcases Nat.lt_or_ge j k with h9 | h9
    ·exact HS.out j h9
    ·rw [List.getElem?_eq_none (by rw [HX.out]; omega), List.getElem?_eq_none (by rw [HY.out]; omega)]
   clear hb
   go_wp2
   go_ret
   exact ⟨by rw [HT.out]; rfl, HB.out⟩
end Go.Proofs.YtppodkkefegbkaaGreatDoor
namespace Go.Proofs.YtppodkkefegbkaaGreatDoor
open Go.Lib Go.Sort
end Go.Proofs.YtppodkkefegbkaaGreatDoor
namespace Go.Proofs.YtppodkkefegbkaaGreatDoor
open Go.RowKit Go.Lib Go.Sort
def FaultV (w : World) (s : Nat → Addr) (k c : Nat) (v : Value) : Prop := ∃ a, v = .iface 83 (.pointer (some ⟨a, 0, none⟩)) ∧ w.cell? ⟨a, 0, none⟩ = some (.int .i64 k) ∧ w.cell? ⟨a, 1, none⟩ = some (err (s (c - 1)))
def ChkR (s : Nat → Addr) (l : List Ln) (w' : World) (e : Ending) : Prop :=
 ((∀ j, j < l.length → sheetE l j = 0) ∧ e = .returned .nilIface) ∨ ∃ k, k < l.length ∧ (∀ j, j < k → sheetE l j = 0) ∧ sheetE l k ≠ 0 ∧ ∃ v, e = .returned v ∧ FaultV w' s k (sheetE l k) v
def DifR (w : World) (s : Nat → Addr) (b : Bk) (l : List Ln) (w' : World) (e : Ending) : Prop :=
 (∃ k, k < l.length ∧ (∀ j, j < k → sheetE l j = 0) ∧ sheetE l k ≠ 0 ∧ ∃ p c v, e = .returned (.tuple #[.slice p 0 c, v]) ∧ FaultV w' s k (sheetE l k) v) ∨
 ((∀ j, j < l.length → sheetE l j = 0) ∧ ∃ k, k < l.length ∧ (∀ j, j < k → noneS b l j = 0) ∧ noneS b l k ≠ 0 ∧ ∃ p c v, e = .returned (.tuple #[.slice p 0 c, v]) ∧ FaultV w' s k 6 v) ∨
 ((∀ j, j < l.length → sheetE l j = 0) ∧ (∀ j, j < l.length → noneS b l j = 0) ∧ ∃ p c, e = .returned (.tuple #[.slice p (diffL b.2.2 l).length c, .nilIface]) ∧ (diffL b.2.2 l = [] ∨ ∃ bq off, p = some ⟨bq, off, none⟩ ∧ w.heap.size ≤ bq ∧ Ents w' bq off (diffL b.2.2 l)))
def closeE (most : Int) (es : List En) : Bool := es.all fun e => decide (e.2.2.2.2.2 ≤ most)
def In64 (n : Int) : Prop := -9223372036854775808 ≤ n ∧ n ≤ 9223372036854775807
structure CountK (s : Nat → Addr) : Prop where
 check : ∀ (W : World) (pp : Option Addr) (l : List Ln) (cap : Nat), Sent W s → ShIn W pp l → l.length ≤ cap → l.length ≤ 30 → (∀ x ∈ l, SzL x) → Calls Tryz.prog 15 #[.slice pp l.length cap] W fun e w' => ChkR s l w' e ∧ Below W.heap.size W w'
 due : ∀ (W : World) (c : ByteArray) (last day : Int), In64 last → In64 day → Calls Tryz.prog 17 #[.string c, .int .i64 last, .int .i64 day] W fun e w' => e = .returned (.bool (dueC c last day)) ∧ Below W.heap.size W w'
structure CountD (s : Nat → Addr) : Prop where
 diff : ∀ (W : World) (B : Nat) (x : Bl) (b : Bk) (pp : Option Addr) (l : List Ln) (cap : Nat), Sent W s → IsBk W B x b → ShIn W pp l → l.length ≤ cap → l.length ≤ 30 → (∀ x ∈ l, SzL x) → Calls Tryz.prog 10 #[.pointer (some ⟨x.p, 0, none⟩), .slice pp l.length cap] W fun e w' => DifR W s b l w' e ∧ Below W.heap.size W w'
structure CountC (s : Nat → Addr) : Prop where
 classes : ∀ (W : World) (B : Nat) (x : Bl) (b : Bk), IsBk W B x b → Calls Tryz.prog 20 #[.pointer (some ⟨x.p, 0, none⟩)] W fun e w' => (∃ p c, e = .returned (.slice p b.1.length c) ∧ Txs w' p (classesG b.1 b.1.length)) ∧ Below W.heap.size W w'
structure CountX (s : Nat → Addr) : Prop where
 diffN : ∀ (W : World) (pp : Option Addr) (l : List Ln) (cap : Nat), Sent W s → ShIn W pp l → l.length ≤ cap → l.length ≤ 30 → (∀ x ∈ l, SzL x) → Calls Tryz.prog 10 #[.pointer none, .slice pp l.length cap] W fun e w' => (∃ p c, e = .returned (.tuple #[.slice p 0 c, err (s 2)])) ∧ Below W.heap.size W w'
 close : ∀ (W : World) (p : Option Addr) (es : List En) (cap : Nat) (most : Int), (es = [] ∨ ∃ bq off, p = some ⟨bq, off, none⟩ ∧ Ents W bq off es) → es.length ≤ 30 → Calls Tryz.prog 24 #[.slice p es.length cap, .int .i64 most] W fun e w' => e = .returned (.bool (closeE most es)) ∧ Below W.heap.size W w'
 classesN : ∀ (W : World), Calls Tryz.prog 20 #[.pointer none] W fun e w' => (∃ p c, e = .returned (.slice p 0 c)) ∧ Below W.heap.size W w'
theorem own_sheet : sheetE [((⟨#[97]⟩, 1, 1), ⟨#[108, 49]⟩, 5)] 0 = 0 := by decide
theorem due_own : dueC clA 0 30 = true ∧ dueC clA 0 29 = false := by decide
theorem place_sheet {x : Ln} (h : ownS x = 0) : placeErr x.1 = 0 := by
 by_cases h0 : placeErr x.1 = 0
 ·exact h0
 ·unfold ownS at h
  rw [if_neg h0] at h
  exact absurd h h0
theorem own_line {l : List Ln} {i : Nat} {x : Ln} (h : sheetE l i = 0) (hx : l[i]? = some x) : ownS x = 0 := by
 rw [sheetE_eq hx] at h
 by_cases h0 : ownS x = 0
 ·exact h0
 ·rw [if_neg h0] at h; exact absurd h h0
theorem CountD.diffF {s : Nat → Addr} (C : CountD s) {W : World} {B : Nat} {x : Bl} {b : Bk} {pp : Option Addr} {l : List Ln} {cap : Nat} (hs : Sent W s) (hI : IsBk W B x b) (hq : ShIn W pp l) (hc : l.length ≤ cap) (h30 : l.length ≤ 30) (hz : ∀ x ∈ l, SzL x) (h1 : ∀ j, j < l.length → sheetE l j = 0) (h2 : ∀ j, j < l.length → noneS b l j = 0) :
  Calls Tryz.prog 10 #[.pointer (some ⟨x.p, 0, none⟩), .slice pp l.length cap] W fun e w' => (∃ p c, e = .returned (.tuple #[.slice p (diffL b.2.2 l).length c, .nilIface]) ∧ (diffL b.2.2 l = [] ∨ ∃ bq off, p = some ⟨bq, off, none⟩ ∧ W.heap.size ≤ bq ∧ Ents w' bq off (diffL b.2.2 l))) ∧ Below W.heap.size W w' :=
 (C.diff W B x b pp l cap hs hI hq hc h30 hz).mono fun e w' ⟨h, h9⟩ => by
  rcases h with ⟨k, hk, _, hne, _⟩ | ⟨_, k, hk, _, hne, _⟩ | ⟨_, _, h3⟩
  ·exact absurd (h1 k hk) hne
  ·exact absurd (h2 k hk) hne
  ·exact ⟨h3, h9⟩
theorem fineS (w : World) : Calls Tryz.prog 44 #[] w fun r w' => r = .returned (.agg #[.int .i64 0, .int .i64 (-1)]) ∧ Below w.heap.size w w' := by
 go_enter Tryz.func44, Tryz.ntmps44
 go_wp2
 refine bodyPost_ret (v := .agg #[.int .i64 0, .int .i64 (-1)]) (by simp [results, Tryz.results44, go_sem]) rfl ⟨rfl, ?_⟩
 repeat (first | exact Below.refl _ _ | (refine Below.setCell ?_ (by (try simp); (try omega)) _) | (refine Below.alloc ?_ (by (try simp); (try omega)) _) | (refine Below.drew ?_))
theorem box_two {w U W : World} {T : TypeId} (hU : w.alloc (.cells #[.int .i64 0, .int .i64 0] T) = U) (hb : Below (w.heap.size + 1) U W) (x y : Value) : ∃ W4 W5 : World, W.setCell ⟨w.heap.size, 0, none⟩ x = W4 ∧ W4.setCell ⟨w.heap.size, 1, none⟩ y = W5 ∧ (W.cell? ⟨w.heap.size, 0, none⟩ = some (.int .i64 0) ∧ W.cell? ⟨w.heap.size, 1, none⟩ = some (.int .i64 0) ∧ ∀ o, W.frozen? ⟨w.heap.size, o, none⟩ = false) ∧ (W4.cell? ⟨w.heap.size, 1, none⟩ = some (.int .i64 0) ∧ ∀ o, W4.frozen? ⟨w.heap.size, o, none⟩ = false) ∧ W5.cell? ⟨w.heap.size, 0, none⟩ = some x ∧ W5.cell? ⟨w.heap.size, 1, none⟩ = some y ∧ Below w.heap.size w W5 ∧ ∀ g, g ≠ w.heap.size → W5.heap[g]? = W.heap[g]? := by
 have n1 : U.heap[w.heap.size]? = _ := hU ▸ heap_alloc_new w (.cells #[.int .i64 0, .int .i64 0] T)
 have hw : Below w.heap.size w U := hU ▸ (Below.refl _ w).alloc (Nat.le_refl _) _
 have h := (hb.block w.heap.size (Nat.lt_succ_self _)).trans n1
 have h2 := set_cell (w := W) (cs' := #[x, .int .i64 0]) h 0 x rfl
 have h3 := set_cell (cs' := #[x, y]) h2 1 y rfl
 have hbw := hw.trans (hb.mono (Nat.le_succ _))
 exact ⟨_, _, rfl, rfl, ⟨by rw [cell_of_heap h]; rfl, by rw [cell_of_heap h]; rfl, fun o => frozen_of_heap h o⟩, ⟨by rw [cell_of_heap h2]; rfl, fun o => frozen_of_heap h2 o⟩, by rw [cell_of_heap h3]; rfl, by rw [cell_of_heap h3]; rfl, (hbw.setCell (Nat.le_refl _) _).setCell (Nat.le_refl _) _, fun g hg => (Below.heap_setCell _ ⟨w.heap.size, 1, none⟩ y g hg).trans (Below.heap_setCell _ ⟨w.heap.size, 0, none⟩ x g hg)⟩
def ShK (f : Nat → Nat) (n : Nat) (r : Ending) : Prop := ((∀ j, j < n → f j = 0) ∧ r = .returned (.agg #[.int .i64 0, .int .i64 (-1)])) ∨ ∃ k, k < n ∧ (∀ j, j < k → f j = 0) ∧ f k ≠ 0 ∧ r = .returned (.agg #[.int .i64 (f k), .int .i64 k])
theorem ownS_cases (x : Ln) : (ownS x = 0 ∧ placeErr x.1 = 0 ∧ isName x.2.1.data.toList = true ∧ 0 ≤ x.2.2 ∧ x.2.2 ≤ 1099511627776) ∨ (placeErr x.1 ≠ 0 ∧ ownS x = placeErr x.1) ∨ (placeErr x.1 = 0 ∧ isName x.2.1.data.toList = false ∧ ownS x = 5) ∨ (placeErr x.1 = 0 ∧ isName x.2.1.data.toList = true ∧ x.2.2 < 0 ∧ ownS x = 2) ∨ (placeErr x.1 = 0 ∧ isName x.2.1.data.toList = true ∧ 0 ≤ x.2.2 ∧ 1099511627776 < x.2.2 ∧ ownS x = 2) := by
 unfold ownS
 by_cases h1 : placeErr x.1 = 0
 ·rw [if_pos h1]
  cases h2 : isName x.2.1.data.toList with
  | false => exact Or.inr (Or.inr (Or.inl ⟨h1, rfl, rfl⟩))
  | true =>
   by_cases h3 : x.2.2 < 0
   ·exact Or.inr (Or.inr (Or.inr (Or.inl ⟨h1, rfl, h3, by rw [if_pos rfl, if_pos (Or.inl h3)]⟩)))
   ·by_cases h4 : 1099511627776 < x.2.2
    ·exact Or.inr (Or.inr (Or.inr (Or.inr ⟨h1, rfl, by omega, h4, by rw [if_pos rfl, if_pos (Or.inr h4)]⟩)))
    ·exact Or.inl ⟨by rw [if_pos rfl, if_neg (by omega)], h1, rfl, by omega, by omega⟩
 ·rw [if_neg h1]
  exact Or.inr (Or.inl ⟨h1, rfl⟩)
def stN (b : Bool) : Int := if b then 7 else 0
theorem standsS_more {l : List Ln} {x : Ln} {j k : Nat} (h : standsS (l.take j) x = true) (hjk : j ≤ k) : standsS (l.take k) x = true := by
 unfold standsS at *
 rw [List.any_eq_true] at *
 obtain ⟨y, hy, h2⟩ := h
 refine ⟨y, ?_, h2⟩
 have e : l.take j = (l.take k).take j := by rw [List.take_take, Nat.min_eq_left hjk]
 rw [e] at hy
 exact List.mem_of_mem_take hy
theorem sheet_any (pp : Option Addr) (l : List Ln) (cap : Nat) (w : World) (h : ShIn w pp l) (hn : l.length ≤ 1000) (hz : ∀ x ∈ l, SzL x) :
  Calls Tryz.prog 16 #[.slice pp l.length cap] w fun r w' => ShK (sheetE l) l.length r ∧ Below w.heap.size w w' := by
 have HL : Hid (∀ W k x, Below w.heap.size w W → l[k]? = some x → ∃ bq off, pp = some ⟨bq, off, none⟩ ∧ LineAt W bq (off + k * 5) x) := fun W k x hb hx => h.line hb hx
 have HZ : Hid (∀ x ∈ l, SzL x) := hz
 obtain ⟨U1, hU1⟩ : ∃ U1, w.alloc (.cells #[.int .i64 0, .int .i64 0] 53) = U1 := ⟨_, rfl⟩
 have HU : Hid (w.alloc (.cells #[.int .i64 0, .int .i64 0] 53) = U1) := hU1
 have hbU : Below w.heap.size w U1 := hU1 ▸ (Below.refl _ w).alloc (Nat.le_refl _) _
 have HB0 : Hid (Below w.heap.size w U1) := hbU
 have HSz : Hid (U1.heap.size = w.heap.size + 1) := by show _ = _; rw [← hU1]; simp
 unfold ShK
 obtain ⟨ln, hln⟩ : ∃ ln, l.length = ln := ⟨_, rfl⟩
 have HN : Hid (ln = l.length) := hln.symm
 rw [hln] at hn ⊢
 clear h hz hln hbU
 go_enter Tryz.func16, Tryz.ntmps16
 go_wp2
 clear hU1
 go_loopw [3] (fun vi wr => ∃ k : Nat, k ≤ ln ∧ vi = .int .i64 k ∧ (∀ j, j < k → sheetE l j = 0) ∧ Below (w.heap.size + 1) U1 wr) (fun vi _ => ln - (RowKit.intOf vi).toNat)
 case atStart => exact ⟨0, Nat.zero_le _, rfl, fun j hj => absurd hj (Nat.not_lt_zero _), Below.refl _ _⟩
 case round =>
  obtain ⟨w0, hw0⟩ : ∃ w0, w0 = wr := ⟨_, rfl⟩
  subst hw0
  obtain ⟨k, hk, rfl, hno, hwr⟩ := hrel
  have HNo : Hid (∀ j, j < k → sheetE l j = 0) := hno
  have HWr : Hid (Below (w.heap.size + 1) U1 w0) := hwr
  have HBw : Hid (Below w.heap.size w w0) := HB0.out.trans (hwr.mono (Nat.le_succ _))
  clear hno
  by_cases hlt : k < ln
  ·obtain ⟨x, hx⟩ : ∃ x, l[k]? = some x := ⟨_, List.getElem?_eq_getElem (by rw [← HN.out]; exact hlt)⟩
   have HX : Hid (l[k]? = some x) := hx
   obtain ⟨bq, off, rfl, c0, c1, c2, c3, c4⟩ := HL.out w0 k x HBw.out hx
   have hzx := HZ.out x (List.mem_of_getElem? hx)
   have HP : Hid (Calls Tryz.prog 42 #[agP x.1] w0 _) := placeError_any x.1 w0 hzx.1
   have HI : Hid (∀ W, Calls Tryz.prog 43 #[.string x.2.1] W _) := fun W => isName_any x.2.1 W hzx.2
   have HLx : Hid (∀ W, Below w0.heap.size w0 W → LineAt W bq (off + k * 5) x) := fun W hb => by
    obtain ⟨bq', off', e, h9⟩ := HL.out W k x (HBw.out.trans (hb.mono HBw.out.size)) hx
    cases e
    exact h9
   have hSh := sheetE_eq hx
   have hszw : w.heap.size + 1 ≤ w0.heap.size := by have := hwr.size; have := HSz.out; omega
   clear hwr hx hzx
   unfold agP at HP
   rcases ownS_cases x with ⟨hO, hp0, hnm, hn0, hn1⟩ | ⟨hp0, hO⟩ | ⟨hp0, hnm, hO⟩ | ⟨hp0, hnm, hn0, hO⟩ | ⟨hp0, hnm, hn0, hn1, hO⟩
   case inl =>
    rw [if_pos hO] at hSh
    have HS : Hid (sheetE l k = if standsS (l.take k) x then 7 else 0) := hSh
    have HXx : Hid (standsS (l.take k) x = standsS (l.take k) x) := rfl
    rw [hp0] at HP
    rw [hnm] at HI
    obtain ⟨x', hx'⟩ : ∃ x', x = x' := ⟨_, rfl⟩
    have HXe : Hid (x = x') := hx'
    obtain ⟨⟨xz, xr, xb⟩, xl, xn⟩ := x'
    have e1 : x.1.1 = xz := by rw [hx']
    have e2 : x.1.2.1 = xr := by rw [hx']
    have e3 : x.1.2.2 = xb := by rw [hx']
    have e4 : x.2.1 = xl := by rw [hx']
    have e5 : x.2.2 = xn := by rw [hx']
    rw [e1] at c0 HP
    rw [e2] at c1 HP
    rw [e3] at c2 HP
    rw [e4] at c3 HI
    rw [e5] at c4 hn0 hn1
    have HLy : Hid (∀ W, Below w0.heap.size w0 W → W.cell? ⟨bq, off + k * 5, none⟩ = some (.string xz) ∧ W.cell? ⟨bq, off + k * 5 + 1, none⟩ = some (.int .i64 xr) ∧ W.cell? ⟨bq, off + k * 5 + 2, none⟩ = some (.int .i64 xb) ∧ W.cell? ⟨bq, off + k * 5 + 3, none⟩ = some (.string xl) ∧ W.cell? ⟨bq, off + k * 5 + 4, none⟩ = some (.int .i64 xn)) := fun W hb => by
     obtain ⟨g0, g1, g2, g3, g4⟩ := HLx.out W hb
     rw [e1] at g0
     rw [e2] at g1
     rw [e3] at g2
     rw [e4] at g3
     rw [e5] at g4
     exact ⟨g0, g1, g2, g3, g4⟩
    clear hSh hO hp0 hnm e1 e2 e3 e4 e5 hx'
    go_wp2_with (first
     | (go_at_call 42; refine HP.out.mono ?_; rintro r w2 ⟨rfl, hb2⟩; have HB2 : Hid (Below w0.heap.size w0 w2) := hb2; obtain ⟨d0, d1, d2, d3, d4⟩ := HLy.out w2 hb2; clear hb2)
     | (go_at_call 43; refine (HI.out _).mono ?_; rintro r w3 ⟨rfl, hw3⟩; have hw3' := hw3.symm; subst hw3'))
    clear d0 d1 d2 d3 d4 c0 c1 c2 c3 c4
    go_loopw [4, 6] (fun ve vk wr => ∃ j : Nat, j ≤ k ∧ vk = .int .i64 j ∧ ve = .int .i64 (stN (standsS (l.take j) x)) ∧ Below w0.heap.size w0 wr) (fun _ vk _ => k - (RowKit.intOf vk).toNat)
    case atStart => exact ⟨0, Nat.zero_le _, rfl, rfl, HB2.out⟩
    case round =>
     obtain ⟨j, hj, rfl, rfl, hb5⟩ := hrel
     have HB5 : Hid (Below w0.heap.size w0 wr) := hb5
     by_cases hst : standsS (l.take j) x = true
     ·have HSk : Hid (sheetE l k = 7) := by show _ = _; rw [HS.out, standsS_more hst hj]; rfl
      rw [hst]
      rw [show stN true = 7 from rfl]
      obtain ⟨W7, W8, e7, e8, ⟨y0, y1, yf⟩, ⟨y2, yg⟩, y3, y4, yb, _⟩ := box_two HU.out (HWr.out.trans (HB5.out.mono hszw)) (.int .i64 7) (.int .i64 (k : Int))
      clear hst hb5
      by_cases hjk : (j : Int) < (k : Int)
      ·go_wp2
       refine bodyPost_ret (v := .agg #[.int .i64 7, .int .i64 k]) (by simp [results, Tryz.results16, go_sem, y3, y4]) rfl ⟨Or.inr ⟨k, hlt, HNo.out, by rw [HSk.out]; decide, by rw [HSk.out] <;> rfl⟩, yb⟩
      ·go_wp2
       refine bodyPost_ret (v := .agg #[.int .i64 7, .int .i64 k]) (by simp [results, Tryz.results16, go_sem, y3, y4]) rfl ⟨Or.inr ⟨k, hlt, HNo.out, by rw [HSk.out]; decide, by rw [HSk.out] <;> rfl⟩, yb⟩
     ·have hsf : standsS (l.take j) x = false := by simpa using hst
      have HSf : Hid (standsS (l.take j) x = false) := hsf
      rw [hsf]
      rw [show stN false = 0 from rfl]
      clear hst
      by_cases hjk : j < k
      ·obtain ⟨y, hy⟩ : ∃ y, l[j]? = some y := ⟨_, List.getElem?_eq_getElem (by rw [← HN.out]; omega)⟩
       have hsu := standsS_succ hy x
       rw [HSf.out, Bool.false_or] at hsu
       have hcy : ∀ d, LineAt (wr.drewN d) bq (off + j * 5) y := fun d => by
        obtain ⟨bq', off', e, h9⟩ := HL.out (wr.drewN d) j y (below_drewN (HBw.out.trans (HB5.out.mono HBw.out.size)) d) hy
        cases e
        exact h9
       have hcx := fun d => HLy.out (wr.drewN d) (below_drewN HB5.out d)
       have s0 := fun d => (hcy d).c0
       have s1 := fun d => (hcy d).c1
       have s2 := fun d => (hcy d).c2
       have s3 := fun d => (hcy d).c3
       have t0 := fun d => (hcx d).1
       have t1 := fun d => (hcx d).2.1
       have t2 := fun d => (hcx d).2.2.1
       have t3 := fun d => (hcx d).2.2.2.1
       obtain ⟨⟨yz, yr, yb⟩, yl, yn⟩ := y
       simp only at s0 s1 s2 s3
       have hq := fun W => eqPl_run yz xz yr yb xr xb W
       have hgd := Tryz.guardPs
       have e9 := same_eq yl xl
       have hdec : decide ((((yz, yr, yb), yl, yn) : Ln).1 = x.1 ∧ (((yz, yr, yb), yl, yn) : Ln).2.1 = x.2.1) = (decide ((yz, yr, yb) = (xz, xr, xb)) && decide (yl = xl)) := by rw [HXe.out, Bool.decide_and]
       rw [hdec] at hsu
       have hj1 : (j : Int) < (k : Int) := by omega
       clear hy hcy hcx hdec hb5
       by_cases hqp : (yz, yr, yb) = (xz, xr, xb)
       ·rw [decide_eq_true hqp] at hq hsu
        by_cases hql : yl = xl
        ·rw [decide_eq_true hql] at e9 hsu
         have HS1 : Hid (standsS (l.take (j + 1)) x = true) := hsu
         clear hqp hql hsu
         go_wp2
         go_quiet (fail)
         have HBn : Hid (Below w0.heap.size w0 (wr.drewN nq)) := below_drewN HB5.out nq
         clear s0 s1 s2 s3 t0 t1 t2 t3 hq e9
         generalize wr.drewN nq = w6 at *
         go_wp2
         go_roundw
         case rel => exact ⟨j + 1, by omega, by go_num, by rw [HS1.out]; rfl, HBn.out⟩
         case measure => simp [RowKit.intOf]; omega
        ·rw [decide_eq_false hql] at e9 hsu
         have HS1 : Hid (standsS (l.take (j + 1)) x = false) := hsu
         clear hqp hql hsu
         go_wp2
         go_quiet (fail)
         have HBn : Hid (Below w0.heap.size w0 (wr.drewN nq)) := below_drewN HB5.out nq
         clear s0 s1 s2 s3 t0 t1 t2 t3 hq e9
         generalize wr.drewN nq = w6 at *
         go_wp2
         go_roundw
         case rel => exact ⟨j + 1, by omega, by go_num, by rw [HS1.out]; rfl, HBn.out⟩
         case measure => simp [RowKit.intOf]; omega
       ·rw [decide_eq_false hqp, Bool.false_and] at hsu
        rw [decide_eq_false hqp] at hq
        have HS1 : Hid (standsS (l.take (j + 1)) x = false) := hsu
        clear hqp hsu
        go_wp2
        go_quiet (fail)
        have HBn : Hid (Below w0.heap.size w0 (wr.drewN nq)) := below_drewN HB5.out nq
        clear s0 s1 s2 s3 t0 t1 t2 t3 hq e9
        generalize wr.drewN nq = w6 at *
        go_wp2
        go_roundw
        case rel => exact ⟨j + 1, by omega, by go_num, by rw [HS1.out]; rfl, HBn.out⟩
        case measure => simp [RowKit.intOf]; omega
      ·have hjk' : j = k := by omega
       subst hjk'
       have HS0 : Hid (sheetE l j = 0) := by show _ = _; rw [HS.out, HSf.out]; rfl
       clear hb5
       go_wp2
       go_roundw
       case rel => exact ⟨j + 1, by omega, by go_num, fun i hi => by
        rcases Nat.lt_or_ge i j with h9 | h9
        ·exact HNo.out i h9
        ·obtain rfl : i = j := by omega
         exact HS0.out, HWr.out.trans (HB5.out.mono hszw)⟩
       case measure => simp [RowKit.intOf]; omega
   case inr.inl =>
    rw [if_neg (by rw [hO]; exact hp0)] at hSh
    have HS : Hid (sheetE l k = placeErr x.1) := by show _ = _; rw [hSh, hO]
    generalize placeErr x.1 = E at *
    have HE0 : Hid (E ≠ 0) := hp0
    have z0 : ((E : Int) == 0) = false := by simp; omega
    have z1 : (0 : Int) < (E : Int) := by omega
    have z2 : ¬ (E : Int) = 0 := by omega
    clear hp0
    generalize isName x.2.1.data.toList = nm at *
    obtain ⟨⟨xz, xr, xb⟩, xl, xn⟩ := x
    simp only at c0 c1 c2 c3 c4 HP HI 
    clear hSh hO
    rcases Nat.eq_zero_or_pos k with hk0 | hk0
    ·have hk1 : ¬ (0 : Int) < (k : Int) := by omega
     clear hk0
     go_wp2_with (first
      | (go_at_call 42; refine HP.out.mono ?_; rintro r w2 ⟨rfl, hb2⟩; have HB2 : Hid (Below w0.heap.size w0 w2) := hb2; obtain ⟨d0, d1, d2, d3, d4⟩ := HLx.out w2 hb2; clear hb2)
      | (go_at_call 43; refine (HI.out _).mono ?_; rintro r w3 ⟨rfl, hw3⟩; have hw3' := hw3.symm; subst hw3'; obtain ⟨W7, W8, e7, e8, ⟨y0, y1, yf⟩, ⟨y2, yg⟩, y3, y4, yb, _⟩ := box_two HU.out (HWr.out.trans (HB2.out.mono hszw)) (.int .i64 (E : Int)) (.int .i64 (k : Int))))
     refine wp_loop_rounds 1 ?_
     rw [rounds_succ]
     go_wp2
     refine bodyPost_ret (v := .agg #[.int .i64 (E : Int), .int .i64 k]) (by simp [results, Tryz.results16, go_sem, y3, y4]) rfl ⟨Or.inr ⟨k, hlt, HNo.out, by rw [HS.out]; exact HE0.out, by rw [HS.out] <;> rfl⟩, yb⟩
    ·have hk1 : (0 : Int) < (k : Int) := by omega
     clear hk0
     go_wp2_with (first
      | (go_at_call 42; refine HP.out.mono ?_; rintro r w2 ⟨rfl, hb2⟩; have HB2 : Hid (Below w0.heap.size w0 w2) := hb2; obtain ⟨d0, d1, d2, d3, d4⟩ := HLx.out w2 hb2; clear hb2)
      | (go_at_call 43; refine (HI.out _).mono ?_; rintro r w3 ⟨rfl, hw3⟩; have hw3' := hw3.symm; subst hw3'; obtain ⟨W7, W8, e7, e8, ⟨y0, y1, yf⟩, ⟨y2, yg⟩, y3, y4, yb, _⟩ := box_two HU.out (HWr.out.trans (HB2.out.mono hszw)) (.int .i64 (E : Int)) (.int .i64 (k : Int))))
     refine wp_loop_rounds 1 ?_
     rw [rounds_succ]
     go_wp2
     refine bodyPost_ret (v := .agg #[.int .i64 (E : Int), .int .i64 k]) (by simp [results, Tryz.results16, go_sem, y3, y4]) rfl ⟨Or.inr ⟨k, hlt, HNo.out, by rw [HS.out]; exact HE0.out, by rw [HS.out] <;> rfl⟩, yb⟩
   case inr.inr.inl =>
    rw [if_neg (by rw [hO]; decide)] at hSh
    have HS : Hid (sheetE l k = 5) := by show _ = _; rw [hSh, hO]
    have HE0 : Hid ((5 : Nat) ≠ 0) := by show ¬ _; decide
    rw [hp0] at HP
    rw [hnm] at HI
    clear hp0 hnm
    obtain ⟨⟨xz, xr, xb⟩, xl, xn⟩ := x
    simp only at c0 c1 c2 c3 c4 HP HI 
    clear hSh hO
    rcases Nat.eq_zero_or_pos k with hk0 | hk0
    ·have hk1 : ¬ (0 : Int) < (k : Int) := by omega
     clear hk0
     go_wp2_with (first
      | (go_at_call 42; refine HP.out.mono ?_; rintro r w2 ⟨rfl, hb2⟩; have HB2 : Hid (Below w0.heap.size w0 w2) := hb2; obtain ⟨d0, d1, d2, d3, d4⟩ := HLx.out w2 hb2; clear hb2)
      | (go_at_call 43; refine (HI.out _).mono ?_; rintro r w3 ⟨rfl, hw3⟩; have hw3' := hw3.symm; subst hw3'; obtain ⟨W7, W8, e7, e8, ⟨y0, y1, yf⟩, ⟨y2, yg⟩, y3, y4, yb, _⟩ := box_two HU.out (HWr.out.trans (HB2.out.mono hszw)) (.int .i64 (5 : Int)) (.int .i64 (k : Int))))
     refine wp_loop_rounds 1 ?_
     rw [rounds_succ]
     go_wp2
     refine bodyPost_ret (v := .agg #[.int .i64 (5 : Int), .int .i64 k]) (by simp [results, Tryz.results16, go_sem, y3, y4]) rfl ⟨Or.inr ⟨k, hlt, HNo.out, by rw [HS.out]; exact HE0.out, by rw [HS.out] <;> rfl⟩, yb⟩
    ·have hk1 : (0 : Int) < (k : Int) := by omega
     clear hk0
     go_wp2_with (first
      | (go_at_call 42; refine HP.out.mono ?_; rintro r w2 ⟨rfl, hb2⟩; have HB2 : Hid (Below w0.heap.size w0 w2) := hb2; obtain ⟨d0, d1, d2, d3, d4⟩ := HLx.out w2 hb2; clear hb2)
      | (go_at_call 43; refine (HI.out _).mono ?_; rintro r w3 ⟨rfl, hw3⟩; have hw3' := hw3.symm; subst hw3'; obtain ⟨W7, W8, e7, e8, ⟨y0, y1, yf⟩, ⟨y2, yg⟩, y3, y4, yb, _⟩ := box_two HU.out (HWr.out.trans (HB2.out.mono hszw)) (.int .i64 (5 : Int)) (.int .i64 (k : Int))))
     refine wp_loop_rounds 1 ?_
     rw [rounds_succ]
     go_wp2
     refine bodyPost_ret (v := .agg #[.int .i64 (5 : Int), .int .i64 k]) (by simp [results, Tryz.results16, go_sem, y3, y4]) rfl ⟨Or.inr ⟨k, hlt, HNo.out, by rw [HS.out]; exact HE0.out, by rw [HS.out] <;> rfl⟩, yb⟩
   case inr.inr.inr.inl =>
    rw [if_neg (by rw [hO]; decide)] at hSh
    have HS : Hid (sheetE l k = 2) := by show _ = _; rw [hSh, hO]
    have HE0 : Hid ((2 : Nat) ≠ 0) := by show ¬ _; decide
    rw [hp0] at HP
    rw [hnm] at HI
    clear hp0 hnm
    obtain ⟨⟨xz, xr, xb⟩, xl, xn⟩ := x
    simp only at c0 c1 c2 c3 c4 HP HI hn0
    clear hSh hO
    rcases Nat.eq_zero_or_pos k with hk0 | hk0
    ·have hk1 : ¬ (0 : Int) < (k : Int) := by omega
     clear hk0
     go_wp2_with (first
      | (go_at_call 42; refine HP.out.mono ?_; rintro r w2 ⟨rfl, hb2⟩; have HB2 : Hid (Below w0.heap.size w0 w2) := hb2; obtain ⟨d0, d1, d2, d3, d4⟩ := HLx.out w2 hb2; clear hb2)
      | (go_at_call 43; refine (HI.out _).mono ?_; rintro r w3 ⟨rfl, hw3⟩; have hw3' := hw3.symm; subst hw3'; obtain ⟨W7, W8, e7, e8, ⟨y0, y1, yf⟩, ⟨y2, yg⟩, y3, y4, yb, _⟩ := box_two HU.out (HWr.out.trans (HB2.out.mono hszw)) (.int .i64 (2 : Int)) (.int .i64 (k : Int))))
     refine wp_loop_rounds 1 ?_
     rw [rounds_succ]
     go_wp2
     refine bodyPost_ret (v := .agg #[.int .i64 (2 : Int), .int .i64 k]) (by simp [results, Tryz.results16, go_sem, y3, y4]) rfl ⟨Or.inr ⟨k, hlt, HNo.out, by rw [HS.out]; exact HE0.out, by rw [HS.out] <;> rfl⟩, yb⟩
    ·have hk1 : (0 : Int) < (k : Int) := by omega
     clear hk0
     go_wp2_with (first
      | (go_at_call 42; refine HP.out.mono ?_; rintro r w2 ⟨rfl, hb2⟩; have HB2 : Hid (Below w0.heap.size w0 w2) := hb2; obtain ⟨d0, d1, d2, d3, d4⟩ := HLx.out w2 hb2; clear hb2)
      | (go_at_call 43; refine (HI.out _).mono ?_; rintro r w3 ⟨rfl, hw3⟩; have hw3' := hw3.symm; subst hw3'; obtain ⟨W7, W8, e7, e8, ⟨y0, y1, yf⟩, ⟨y2, yg⟩, y3, y4, yb, _⟩ := box_two HU.out (HWr.out.trans (HB2.out.mono hszw)) (.int .i64 (2 : Int)) (.int .i64 (k : Int))))
     refine wp_loop_rounds 1 ?_
     rw [rounds_succ]
     go_wp2
     refine bodyPost_ret (v := .agg #[.int .i64 (2 : Int), .int .i64 k]) (by simp [results, Tryz.results16, go_sem, y3, y4]) rfl ⟨Or.inr ⟨k, hlt, HNo.out, by rw [HS.out]; exact HE0.out, by rw [HS.out] <;> rfl⟩, yb⟩
   case inr.inr.inr.inr =>
    rw [if_neg (by rw [hO]; decide)] at hSh
    have HS : Hid (sheetE l k = 2) := by show _ = _; rw [hSh, hO]
    have HE0 : Hid ((2 : Nat) ≠ 0) := by show ¬ _; decide
    rw [hp0] at HP
    rw [hnm] at HI
    clear hp0 hnm
    obtain ⟨⟨xz, xr, xb⟩, xl, xn⟩ := x
    simp only at c0 c1 c2 c3 c4 HP HI hn0 hn1
    clear hSh hO
    rcases Nat.eq_zero_or_pos k with hk0 | hk0
    ·have hk1 : ¬ (0 : Int) < (k : Int) := by omega
     clear hk0
     go_wp2_with (first
      | (go_at_call 42; refine HP.out.mono ?_; rintro r w2 ⟨rfl, hb2⟩; have HB2 : Hid (Below w0.heap.size w0 w2) := hb2; obtain ⟨d0, d1, d2, d3, d4⟩ := HLx.out w2 hb2; clear hb2)
      | (go_at_call 43; refine (HI.out _).mono ?_; rintro r w3 ⟨rfl, hw3⟩; have hw3' := hw3.symm; subst hw3'; obtain ⟨W7, W8, e7, e8, ⟨y0, y1, yf⟩, ⟨y2, yg⟩, y3, y4, yb, _⟩ := box_two HU.out (HWr.out.trans (HB2.out.mono hszw)) (.int .i64 (2 : Int)) (.int .i64 (k : Int))))
     refine wp_loop_rounds 1 ?_
     rw [rounds_succ]
     go_wp2
     refine bodyPost_ret (v := .agg #[.int .i64 (2 : Int), .int .i64 k]) (by simp [results, Tryz.results16, go_sem, y3, y4]) rfl ⟨Or.inr ⟨k, hlt, HNo.out, by rw [HS.out]; exact HE0.out, by rw [HS.out] <;> rfl⟩, yb⟩
    ·have hk1 : (0 : Int) < (k : Int) := by omega
     clear hk0
     go_wp2_with (first
      | (go_at_call 42; refine HP.out.mono ?_; rintro r w2 ⟨rfl, hb2⟩; have HB2 : Hid (Below w0.heap.size w0 w2) := hb2; obtain ⟨d0, d1, d2, d3, d4⟩ := HLx.out w2 hb2; clear hb2)
      | (go_at_call 43; refine (HI.out _).mono ?_; rintro r w3 ⟨rfl, hw3⟩; have hw3' := hw3.symm; subst hw3'; obtain ⟨W7, W8, e7, e8, ⟨y0, y1, yf⟩, ⟨y2, yg⟩, y3, y4, yb, _⟩ := box_two HU.out (HWr.out.trans (HB2.out.mono hszw)) (.int .i64 (2 : Int)) (.int .i64 (k : Int))))
     refine wp_loop_rounds 1 ?_
     rw [rounds_succ]
     go_wp2
     refine bodyPost_ret (v := .agg #[.int .i64 (2 : Int), .int .i64 k]) (by simp [results, Tryz.results16, go_sem, y3, y4]) rfl ⟨Or.inr ⟨k, hlt, HNo.out, by rw [HS.out]; exact HE0.out, by rw [HS.out] <;> rfl⟩, yb⟩
  ·have hkn : k = ln := by omega
   subst hkn
   have hszw : w.heap.size + 1 ≤ w0.heap.size := by have := hwr.size; have := HSz.out; omega
   clear hwr
   go_wp2_with (go_at_call 44; refine (fineS _).mono ?_; rintro r w2 ⟨rfl, hb2⟩; obtain ⟨W7, W8, e7, e8, ⟨y0, y1, yf⟩, ⟨y2, yg⟩, y3, y4, yb, _⟩ := box_two HU.out (HWr.out.trans (hb2.mono hszw)) (.int .i64 0) (.int .i64 (-1)))
   refine bodyPost_ret (v := .agg #[.int .i64 0, .int .i64 (-1)]) (by simp [results, Tryz.results16, go_sem, y3, y4]) rfl ⟨Or.inl ⟨HNo.out, rfl⟩, yb⟩
def encD : Enc En where
 k := 14
 enc e := [.string e.1, .string e.2.1.1, .int .i64 e.2.1.2, .string e.2.2.1.1, .string e.2.2.1.2.1, .int .i64 e.2.2.1.2.2.1, .int .i64 e.2.2.1.2.2.2, .string e.2.2.2.1.1, .int .i64 e.2.2.2.1.2.1, .int .i64 e.2.2.2.1.2.2, .string e.2.2.2.2.1.1, .int .i64 e.2.2.2.2.1.2.1, .int .i64 e.2.2.2.2.1.2.2, .int .i64 e.2.2.2.2.2]
 len _ := rfl
 one e v hv := by
  simp only [List.mem_cons, List.not_mem_nil, or_false] at hv
  rcases hv with rfl | rfl | rfl | rfl | rfl | rfl | rfl | rfl | rfl | rfl | rfl | rfl | rfl | rfl <;> rfl
theorem Tryz.infoEnt : (Tryz.prog.info? 43).map (fun i => (i.zero, i.size, i.bytes)) = some (some (.agg #[.string ⟨#[]⟩, .string ⟨#[]⟩, .int .i64 0, .string ⟨#[]⟩, .string ⟨#[]⟩, .int .i64 0, .int .i64 0, .string ⟨#[]⟩, .int .i64 0, .int .i64 0, .string ⟨#[]⟩, .int .i64 0, .int .i64 0, .int .i64 0]), 14, 160) := by kernel_rfl
theorem flat_lines (m : List Ln) : encLn.flat m = flatN m := rfl
theorem RefB.stk {w : World} {B q : Nat} {b : Bk} (h : RefB w B q b) : ∃ vS, ∀ W, Below w.heap.size w W → W.cell? ⟨q, 2, none⟩ = some vS ∧ RefS W vS b.2.2 := by
 obtain ⟨vG, vL, vS, h1, h2, h3, h4, h5⟩ := h
 refine ⟨vS, fun W hb => ⟨?_, ?_⟩⟩
 ·rw [cell_of_heap ((hb.block q (Array.getElem?_eq_some_iff.1 h1).1).trans h1)]; rfl
 ·have := h4.below hb
  unfold Enc.Row at this
  rw [flat_lines] at this
  exact this
def DfK (w : World) (b : Bk) (l : List Ln) (r : Ending) (w' : World) : Prop :=
 (∃ k, k < l.length ∧ (∀ j, j < k → sheetE l j = 0) ∧ sheetE l k ≠ 0 ∧ r = .returned (.tuple #[.slice none 0 0, .agg #[.int .i64 (sheetE l k), .int .i64 k]])) ∨
 ((∀ j, j < l.length → sheetE l j = 0) ∧ ∃ k, k < l.length ∧ (∀ j, j < k → noneS b l j = 0) ∧ noneS b l k ≠ 0 ∧ r = .returned (.tuple #[.slice none 0 0, .agg #[.int .i64 6, .int .i64 k]])) ∨
 ((∀ j, j < l.length → sheetE l j = 0) ∧ (∀ j, j < l.length → noneS b l j = 0) ∧ ∃ v, r = .returned (.tuple #[v, .agg #[.int .i64 0, .int .i64 (-1)]]) ∧ encD.Row w' w.heap.size 43 v (diffL b.2.2 l))
theorem rdiff_any (pp : Option Addr) (l : List Ln) (cap : Nat) (w : World) (B q : Nat) (b : Bk) (h : ShIn w pp l) (hR : RefB w B q b) (hw : WfB b) (hn : l.length ≤ 1000) (hz : ∀ x ∈ l, SzL x) :
  Calls Tryz.prog 22 #[.pointer (some ⟨q, 0, none⟩), .slice pp l.length cap] w fun r w' => DfK w b l r w' ∧ Below w.heap.size w w' := by
 obtain ⟨i0, hi, hz0, hz1, hz2⟩ := info_parts Tryz.infoEnt
 obtain ⟨vS, hS⟩ := hR.stk
 have HS : Hid (∀ W, Below w.heap.size w W → W.cell? ⟨q, 2, none⟩ = some vS ∧ RefS W vS b.2.2) := hS
 have HL : Hid (∀ W k x, Below w.heap.size w W → l[k]? = some x → ∃ bq off, pp = some ⟨bq, off, none⟩ ∧ LineAt W bq (off + k * 5) x) := fun W k x hb hx => h.line hb hx
 have HF : Hid (∀ W c, Below w.heap.size w W → Calls Tryz.prog 51 #[.pointer (some ⟨q, 0, none⟩), .string c] W fun e w' => e = .returned (.int .i64 (findI nameL b.2.1 c)) ∧ w' = W) := fun W c hb => findL_any W B q b c (hR.below hb) (by have := hw.ll; omega)
 have HAt : Hid (∀ W x c, Below w.heap.size w W → Calls Tryz.prog 52 #[.agg #[vS], agP x, .string c] W fun e w' => e = .returned (.int .i64 (atL b.2.2 (x, c))) ∧ Below W.heap.size W w') := fun W x c hb => refAt_any vS b.2.2 x c W (hS W hb).2 hw.st.len hw.st.sorted
 have HAb : Hid (∀ p, 0 ≤ atL b.2.2 p ∧ atL b.2.2 p ≤ 1099511627776) := fun p => ⟨hw.st.at_nonneg p, Int.le_trans (hw.st.at_le p) (hw.st.most p.2)⟩
 obtain ⟨U1, hU1⟩ : ∃ U1, w.alloc (.cells #[.int .i64 0, .int .i64 0] 53) = U1 := ⟨_, rfl⟩
 have HU : Hid (w.alloc (.cells #[.int .i64 0, .int .i64 0] 53) = U1) := hU1
 have hbU : Below w.heap.size w U1 := hU1 ▸ (Below.refl _ w).alloc (Nat.le_refl _) _
 have HB0 : Hid (Below w.heap.size w U1) := hbU
 have HSz : Hid (U1.heap.size = w.heap.size + 1) := by show _ = _; rw [← hU1]; simp
 have HSh : Hid (Calls Tryz.prog 16 _ U1 _) := sheet_any pp l cap U1 (h.on hbU) hn hz
 have hfo := first_or (sheetE l) l.length
 have hfn := first_or (noneS b l) l.length
 have HSz5 : Hid (∀ x ∈ l, SzL x) := hz
 unfold DfK
 unfold ShK at HSh
 obtain ⟨ln, hln⟩ : ∃ ln, l.length = ln := ⟨_, rfl⟩
 have HN : Hid (ln = l.length) := hln.symm
 rw [hln] at hn HSh hfo hfn ⊢
 clear h hz hln hbU hR hS hw
 rcases hfo with hgood | ⟨k, hk, hbe, hne⟩
 case inr =>
  have hE12 := sheetE_le l k
  obtain ⟨E, hEe⟩ : ∃ E, sheetE l k = E := ⟨_, rfl⟩
  have HSh1 : Hid (Calls Tryz.prog 16 #[.slice pp ln cap] U1 fun r w' => r = .returned (.agg #[.int .i64 (E : Int), .int .i64 k]) ∧ Below U1.heap.size U1 w') := HSh.out.mono fun r w' ⟨h1, h2⟩ => by
   rcases h1 with ⟨h3, _⟩ | ⟨k', hk', hb', hne', h4⟩
   ·exact absurd (h3 k hk) hne
   ·obtain rfl := first_same hbe hne hb' hne'
    exact ⟨by rw [← hEe]; exact h4, h2⟩
  have HBe : Hid (∀ j, j < k → sheetE l j = 0) := hbe
  have HEe : Hid (sheetE l k = E) := hEe
  have z1 : (0 : Int) < (E : Int) := by omega
  have HE0 : Hid (sheetE l k ≠ 0) := hne
  clear hfn hbe hEe hne hE12 HSh
  go_enter Tryz.func22, Tryz.ntmps22
  go_wp2_with (go_at_call 16; refine HSh1.out.mono ?_; rintro r w2 ⟨rfl, hb2⟩; have n2 := heap_alloc_new w2 (.cells #[.int .i64 (E : Int), .int .i64 k] 53); have hb2' : Below U1.heap.size U1 (w2.alloc (.cells #[.int .i64 (E : Int), .int .i64 k] 53)) := hb2.alloc hb2.size _; obtain ⟨W2, hW2⟩ : ∃ W2, w2.alloc (.cells #[.int .i64 (E : Int), .int .i64 k] 53) = W2 := ⟨_, rfl⟩; rw [hW2] at n2 hb2'; have t0 : W2.cell? ⟨w2.heap.size, 0, none⟩ = some (.int .i64 (E : Int)) := (by rw [cell_of_heap n2]; rfl); have t1 : W2.cell? ⟨w2.heap.size, 1, none⟩ = some (.int .i64 k) := (by rw [cell_of_heap n2]; rfl); have s0 : W2.drew.cell? ⟨w2.heap.size, 0, none⟩ = some (.int .i64 (E : Int)) := t0; have s1 : W2.drew.cell? ⟨w2.heap.size, 1, none⟩ = some (.int .i64 k) := t1; rw [HSz.out] at hb2'; obtain ⟨W7, W8, e7, e8, ⟨y0, y1, yf⟩, ⟨y2, yg⟩, y3, y4, yb, _⟩ := box_two HU.out hb2'.drew (.int .i64 (E : Int)) (.int .i64 (k : Int)); clear n2 hb2 hb2')
  go_region
  all_goals
   go_wp2
   refine bodyPost_ret (v := .tuple #[.slice none 0 0, .agg #[.int .i64 (E : Int), .int .i64 k]]) (by simp [results, Tryz.results22, go_sem, y3, y4]) rfl ⟨Or.inl ⟨k, hk, HBe.out, HE0.out, by rw [HEe.out]⟩, yb⟩
 have HGd : Hid (∀ j, j < ln → sheetE l j = 0) := hgood
 have HSh1 : Hid (Calls Tryz.prog 16 #[.slice pp ln cap] U1 fun r w' => r = .returned (.agg #[.int .i64 0, .int .i64 (-1)]) ∧ Below U1.heap.size U1 w') := HSh.out.mono fun r w' ⟨h1, h2⟩ => by
  rcases h1 with ⟨_, h4⟩ | ⟨k', hk', hb', hne', h4⟩
  ·exact ⟨h4, h2⟩
  ·exact absurd (hgood k' hk') hne'
 clear hgood HSh hfn
 go_enter Tryz.func22, Tryz.ntmps22
 go_wp2_with (go_at_call 16; refine HSh1.out.mono ?_; rintro r w2 ⟨rfl, hb2⟩; have n2 := heap_alloc_new w2 (.cells #[.int .i64 0, .int .i64 (-1)] 53); have hb2' : Below U1.heap.size U1 (w2.alloc (.cells #[.int .i64 0, .int .i64 (-1)] 53)) := hb2.alloc hb2.size _; obtain ⟨W2, hW2⟩ : ∃ W2, w2.alloc (.cells #[.int .i64 0, .int .i64 (-1)] 53) = W2 := ⟨_, rfl⟩; rw [hW2] at n2 hb2'; have t0 : W2.cell? ⟨w2.heap.size, 0, none⟩ = some (.int .i64 0) := (by rw [cell_of_heap n2]; rfl); rw [HSz.out] at hb2'; have HB2 : Hid (Below (w.heap.size + 1) U1 W2) := hb2'; clear n2 hb2 hb2')
 clear hW2 t0
 go_loopw [7] (fun vi wr => ∃ k : Nat, k ≤ ln ∧ vi = .int .i64 k ∧ wr = W2 ∧ (∀ j, j < k → noneS b l j = 0)) (fun vi _ => ln - (RowKit.intOf vi).toNat)
 case atStart => exact ⟨0, Nat.zero_le _, rfl, rfl, fun j hj => absurd hj (Nat.not_lt_zero _)⟩
 case round =>
  obtain ⟨k, hk, rfl, rfl, hno⟩ := hrel
  have HNo : Hid (∀ j, j < k → noneS b l j = 0) := hno
  have HBw : Hid (Below w.heap.size w wr) := HB0.out.trans (HB2.out.mono (Nat.le_succ _))
  clear hno
  by_cases hlt : k < ln
  ·obtain ⟨x, hx⟩ : ∃ x, l[k]? = some x := ⟨_, List.getElem?_eq_getElem (by rw [← HN.out]; exact hlt)⟩
   obtain ⟨bq, off, rfl, c0, c1, c2, c3, c4⟩ := HL.out wr k x HBw.out hx
   have hns := noneS_eq (b := b) hx
   have HFx : Hid (Calls Tryz.prog 51 #[.pointer (some ⟨q, 0, none⟩), .string x.2.1] wr _) := HF.out wr x.2.1 HBw.out
   generalize x.2.1 = xl at *
   generalize hI : findI nameL b.2.1 xl = I at *
   by_cases hneg : I < 0
   ·rw [if_pos hneg] at hns
    have HS6 : Hid (noneS b l k = 6) := hns
    obtain ⟨W7, W8, e7, e8, ⟨y0, y1, yf⟩, ⟨y2, yg⟩, y3, y4, yb, _⟩ := box_two HU.out HB2.out (.int .i64 6) (.int .i64 (k : Int))
    clear hns hx hI
    go_wp2_with (go_at_call 51; refine HFx.out.mono ?_; rintro r w6 ⟨rfl, hw6⟩; have hw6' := hw6.symm; subst hw6')
    refine bodyPost_ret (v := .tuple #[.slice none 0 0, .agg #[.int .i64 6, .int .i64 k]]) (by simp [results, Tryz.results22, go_sem, y3, y4]) rfl ⟨Or.inr (Or.inl ⟨HGd.out, k, hlt, HNo.out, by rw [HS6.out]; decide, rfl⟩), yb⟩
   ·rw [if_neg hneg] at hns
    have HS0 : Hid (noneS b l k = 0) := hns
    clear hns hx hI
    go_wp2_with (go_at_call 51; refine HFx.out.mono ?_; rintro r w6 ⟨rfl, hw6⟩; have hw6' := hw6.symm; subst hw6')
    go_roundw
    case rel => exact ⟨k + 1, by omega, by go_num, by first | rfl | trivial, fun j hj => by
     rcases Nat.lt_or_ge j k with h9 | h9
     ·exact HNo.out j h9
     ·obtain rfl : j = k := by omega
      exact HS0.out⟩
    case measure => simp [RowKit.intOf]; omega
  ·have hkn : ln = k := by omega
   subst hkn
   have HNn : Hid (∀ j, j < ln → noneS b l j = 0) := HNo.out
   go_wp2
   go_loopw [8, 9] (fun vo vi wr => ∃ k' : Nat, k' ≤ ln ∧ vi = .int .i64 k' ∧ encD.Row wr (w.heap.size + 1) 43 vo (diffL b.2.2 (l.take k')) ∧ Below (w.heap.size + 1) U1 wr) (fun _ vi _ => ln - (RowKit.intOf vi).toNat)
   case atStart => exact ⟨0, Nat.zero_le _, rfl, World.ownsRow_nil _ _ _ _, HB2.out⟩
   case round =>
    clear HNo HBw
    obtain ⟨w0, hw0⟩ : ∃ w0, w0 = wr := ⟨_, rfl⟩
    subst hw0
    rename_i vo
    obtain ⟨k, hk, rfl, hrow, hwr⟩ := hrel
    have HWr : Hid (Below (w.heap.size + 1) U1 w0) := hwr
    have HBw : Hid (Below w.heap.size w w0) := HB0.out.trans (hwr.mono (Nat.le_succ _))
    have hszw : w.heap.size + 1 ≤ w0.heap.size := by have := hwr.size; have := HSz.out; omega
    by_cases hlt : k < ln
    ·obtain ⟨x, hx⟩ : ∃ x, l[k]? = some x := ⟨_, List.getElem?_eq_getElem (by rw [← HN.out]; exact hlt)⟩
     obtain ⟨bq, off, rfl, c0, c1, c2, c3, c4⟩ := HL.out w0 k x HBw.out hx
     have HLx : Hid (∀ W, Below w.heap.size w W → LineAt W bq (off + k * 5) x) := fun W hb => by
      obtain ⟨bq', off', e, h9⟩ := HL.out W k x hb hx
      cases e
      exact h9
     have hown : ownS x = 0 := by
      have h1 := HGd.out k hlt
      rw [sheetE_eq hx] at h1
      by_cases h0 : ownS x = 0
      ·exact h0
      ·rw [if_neg h0] at h1; exact absurd h1 h0
     have hxb : 0 ≤ x.2.2 ∧ x.2.2 ≤ 1099511627776 := by
      rcases ownS_cases x with ⟨_, _, _, h1, h2⟩ | ⟨h1, h2⟩ | ⟨_, _, h2⟩ | ⟨_, _, _, h2⟩ | ⟨_, _, _, _, h2⟩
      ·exact ⟨h1, h2⟩
      all_goals omega
     obtain ⟨x0, x9⟩ := hxb
     have hde := diffL_succ (m := b.2.2) hx
     have hdl := diffL_len b.2.2 (l.take k)
     have hdl2 := List.length_take_le' k l
     have hj9 : (diffL b.2.2 (l.take k)).length ≤ 1000 := by have := HN.out; omega
     have hsc := (HS.out w0 HBw.out).1
     have HAx : Hid (∀ W, Below w0.heap.size w0 W → Calls Tryz.prog 52 #[.agg #[vS], agP x.1, .string x.2.1] W fun e w' => e = .returned (.int .i64 (atL b.2.2 (x.1, x.2.1))) ∧ Below W.heap.size W w') := fun W hb => HAt.out W x.1 x.2.1 (HBw.out.trans (hb.mono HBw.out.size))
     obtain ⟨a0, a9⟩ := HAb.out (x.1, x.2.1)
     obtain ⟨ao, co, rfl⟩ := hrow.shape
     unfold diffOne at hde
     obtain ⟨A, hA⟩ : ∃ A, atL b.2.2 (x.1, x.2.1) = A := ⟨_, rfl⟩
     rw [hA] at hde HAx a0 a9
     obtain ⟨⟨xz, xr, xb⟩, xl, xn⟩ := x
     unfold moreEn lessEn at hde
     unfold agP at HAx
     simp only at c0 c1 c2 c3 c4 HAx x0 x9 hde
     clear hown hdl hdl2 hx hA
     have HRw : Hid (encD.Row w0 (w.heap.size + 1) 43 (.slice ao (diffL b.2.2 (l.take k)).length co) (diffL b.2.2 (l.take k))) := hrow
     clear hrow hwr
     generalize diffL b.2.2 (l.take k) = M at *
     generalize hmn : M.length = j at *
     have HMn : Hid (M.length = j) := hmn
     clear hmn
     go_wp2
     have hbR : ∀ d os, Below w0.heap.size w0 (grow (redrawn w0 d) os) := fun d os => below_regrown w0 d os
     have g0 := cell_regrown c0
     have g1 := cell_regrown c1
     have g2 := cell_regrown c2
     have g3 := cell_regrown c3
     have gs := cell_regrown hsc
     have cA := fun d os => Calls.regrown_of (w := w0) (HAx.out _ (hbR d os))
     clear HAx c0 c1 c2 c3 c4 hsc
     refine wp_region_quiet_below (by kernel_rfl) (by kernel_rfl) ?_
     repeat (quiet_step (first | (go_at_call 52; exact cA _ _)))
     refine wpQuiet_nil ?_
     intro _ hw'
     obtain ⟨⟨dq, osq⟩, hw''⟩ := hw'
     subst hw''
     have HBE : Hid (Below w0.heap.size w0 (grow (redrawn w0 dq) osq)) := hbR dq osq
     clear hbR g0 g1 g2 g3 gs cA
     generalize grow (redrawn w0 dq) osq = W at *
     obtain ⟨k0, k1, k2, k3, k4⟩ := HLx.out W (HBw.out.trans (HBE.out.mono HBw.out.size))
     obtain ⟨Wd, hWd⟩ : ∃ Wd, W.drew = Wd := ⟨_, rfl⟩
     have HBd : Hid (Below w0.heap.size w0 Wd) := hWd ▸ HBE.out.drew
     have HOd : Hid (Wd.ownsRow (w.heap.size + 1) 43 14 (.slice ao j co) j (encD.flat M)) := by
      have := HRw.out.below HBd.out
      unfold Enc.Row at this
      rw [HMn.out] at this
      exact this
     obtain ⟨m0, m1, m2, m3, m4⟩ := HLx.out Wd (HBw.out.trans (HBd.out.mono HBw.out.size))
     simp only at k0 k1 k2 k3 k4 m0 m1 m2 m3 m4
     have hsd := HBd.out.size
     have hsw := HBE.out.size
     by_cases hlt1 : A < xn
     ·rw [if_pos hlt1] at hde
      have HDe : Hid (diffL b.2.2 (l.take (k + 1)) = M ++ [(kMore, (⟨#[]⟩, 0), (xl, ⟨#[]⟩, 0, 0), (⟨#[]⟩, 0, 0), (xz, xr, xb), xn - A)]) := hde
      have hno : ¬ xn < A := by omega
      have hwD : IntKind.i64.wrap (xn - A) = xn - A := by rw [IntKind.wrap_i64]; omega
      clear hde
      go_wp2
      go_region_held3 (fun w' => w'.cell? ⟨bq, off + k * 5, none⟩ = some (.string xz) ∧ w'.cell? ⟨bq, off + k * 5 + 1, none⟩ = some (.int .i64 xr) ∧ w'.cell? ⟨bq, off + k * 5 + 2, none⟩ = some (.int .i64 xb) ∧ w'.cell? ⟨bq, off + k * 5 + 3, none⟩ = some (.string xl) ∧ w'.cell? ⟨bq, off + k * 5 + 4, none⟩ = some (.int .i64 xn)) (go_keep)
       (first
        | (refine step_append_lies _ rfl _ _ 22 rfl (w.heap.size + 1) 43 i0 _ 14 160 Tryz.underlying22 hi hz0 hz1 hz2 rfl (by decide) (.slice ao j co) j (encD.flat M) rfl (HOd.out.alloc _) ⟨Wd.heap.size, 0, none⟩ 1 1 (encD.enc ((kMore, (⟨#[]⟩, 0), (xl, ⟨#[]⟩, 0, 0), (⟨#[]⟩, 0, 0), (xz, xr, xb), xn - A))) rfl rfl (World.news_of_block (heap_alloc_new Wd _)) (encD.one _) (by decide) (by unfold maxLen; omega) (by omega) (by simp; omega) _ rfl ?_; intro g4 cap4 w4 own4 gr4 _ _; have HB4 : Hid (Below (w.heap.size + 1) U1 w4) := ((HWr.out.trans (HBd.out.mono hszw)).alloc (by omega) _).grown gr4 (by simp; omega) (fun kk hkk => (HOd.out.lt kk hkk).1); have HO4 : Hid (w4.ownsRow (w.heap.size + 1) 43 14 (.slice (some ⟨g4, 0, none⟩) (j + 1) cap4) (j + 1) (encD.flat M ++ encD.enc ((kMore, (⟨#[]⟩, 0), (xl, ⟨#[]⟩, 0, 0), (⟨#[]⟩, 0, 0), (xz, xr, xb), xn - A)))) := own4; obtain ⟨k0, k1, k2, k3, k4⟩ := HLx.out w4 (HB0.out.trans (HB4.out.mono (Nat.le_succ _))); (try simp only at k0 k1 k2 k3 k4); clear own4 gr4))
      go_wp2
      go_roundw
      case rel => exact ⟨k + 1, by omega, by go_num, by rw [HDe.out]; unfold Enc.Row; rw [List.length_append, HMn.out, encD.flat_append, encD.flat_one]; exact HO4.out, HB4.out⟩
      case measure => simp [RowKit.intOf]; omega
     ·rw [if_neg hlt1] at hde
      by_cases hlt2 : xn < A
      ·rw [if_pos hlt2] at hde
       have HDe : Hid (diffL b.2.2 (l.take (k + 1)) = M ++ [(kLess, (⟨#[]⟩, 0), (xl, ⟨#[]⟩, 0, 0), (xz, xr, xb), (⟨#[]⟩, 0, 0), A - xn)]) := hde
       have hwD : IntKind.i64.wrap (A - xn) = A - xn := by rw [IntKind.wrap_i64]; omega
       clear hde
       go_wp2
       go_region_held3 (fun w' => w'.cell? ⟨bq, off + k * 5, none⟩ = some (.string xz) ∧ w'.cell? ⟨bq, off + k * 5 + 1, none⟩ = some (.int .i64 xr) ∧ w'.cell? ⟨bq, off + k * 5 + 2, none⟩ = some (.int .i64 xb) ∧ w'.cell? ⟨bq, off + k * 5 + 3, none⟩ = some (.string xl) ∧ w'.cell? ⟨bq, off + k * 5 + 4, none⟩ = some (.int .i64 xn)) (go_keep)
        (first
         | (refine step_append_lies _ rfl _ _ 22 rfl (w.heap.size + 1) 43 i0 _ 14 160 Tryz.underlying22 hi hz0 hz1 hz2 rfl (by decide) (.slice ao j co) j (encD.flat M) rfl (HOd.out.alloc _) ⟨Wd.heap.size, 0, none⟩ 1 1 (encD.enc ((kLess, (⟨#[]⟩, 0), (xl, ⟨#[]⟩, 0, 0), (xz, xr, xb), (⟨#[]⟩, 0, 0), A - xn))) rfl rfl (World.news_of_block (heap_alloc_new Wd _)) (encD.one _) (by decide) (by unfold maxLen; omega) (by omega) (by simp; omega) _ rfl ?_; intro g4 cap4 w4 own4 gr4 _ _; have HB4 : Hid (Below (w.heap.size + 1) U1 w4) := ((HWr.out.trans (HBd.out.mono hszw)).alloc (by omega) _).grown gr4 (by simp; omega) (fun kk hkk => (HOd.out.lt kk hkk).1); have HO4 : Hid (w4.ownsRow (w.heap.size + 1) 43 14 (.slice (some ⟨g4, 0, none⟩) (j + 1) cap4) (j + 1) (encD.flat M ++ encD.enc ((kLess, (⟨#[]⟩, 0), (xl, ⟨#[]⟩, 0, 0), (xz, xr, xb), (⟨#[]⟩, 0, 0), A - xn)))) := own4; obtain ⟨k0, k1, k2, k3, k4⟩ := HLx.out w4 (HB0.out.trans (HB4.out.mono (Nat.le_succ _))); (try simp only at k0 k1 k2 k3 k4); clear own4 gr4))
       go_wp2
       go_roundw
       case rel => exact ⟨k + 1, by omega, by go_num, by rw [HDe.out]; unfold Enc.Row; rw [List.length_append, HMn.out, encD.flat_append, encD.flat_one]; exact HO4.out, HB4.out⟩
       case measure => simp [RowKit.intOf]; omega
      ·rw [if_neg hlt2, List.append_nil] at hde
       have HDe : Hid (diffL b.2.2 (l.take (k + 1)) = M) := hde
       clear hde
       go_wp2
       go_roundw
       case rel => exact ⟨k + 1, by omega, by go_num, by rw [HDe.out]; exact HMn.out ▸ HRw.out.below HBE.out, HWr.out.trans (HBE.out.mono hszw)⟩
       case measure => simp [RowKit.intOf]; omega
    ·have hkn : k = ln := by omega
     subst hkn
     have e : l.take k = l := List.take_of_length_le (by rw [← HN.out]; exact Nat.le_refl _)
     rw [e] at hrow
     obtain ⟨ao, co, rfl⟩ := hrow.shape
     have HRow : Hid (encD.Row w0 (w.heap.size + 1) 43 (.slice ao (diffL b.2.2 l).length co) (diffL b.2.2 l)) := hrow
     clear hrow hwr e
     go_wp2_with (go_at_call 44; refine (fineS _).mono ?_; rintro r w6 ⟨rfl, hb6⟩; obtain ⟨W7, W8, e7, e8, ⟨y0, y1, yf⟩, ⟨y2, yg⟩, y3, y4, yb, yo⟩ := box_two HU.out (HWr.out.trans (hb6.mono hszw)) (.int .i64 0) (.int .i64 (-1)); have HRE : Hid (encD.Row W8 w.heap.size 43 (.slice ao (diffL b.2.2 l).length co) (diffL b.2.2 l)) := ((HRow.out.below hb6).kept (fun g hg => yo g (fun e9 => by have := (HRow.out.lt hg).1; omega))).base (Nat.le_succ _); clear yo hb6)
     refine bodyPost_ret (v := .tuple #[.slice ao (diffL b.2.2 l).length co, .agg #[.int .i64 0, .int .i64 (-1)]]) (by simp [results, Tryz.results22, go_sem, y3, y4]) rfl ⟨Or.inr (Or.inr ⟨HGd.out, HNn.out, _, rfl, HRE.out⟩), yb⟩
def encS : Enc ByteArray where
 k := 1
 enc s := [.string s]
 len _ := rfl
 one s v hv := by
  rw [List.mem_singleton.1 hv]; rfl
theorem Tryz.infoSt : (Tryz.prog.info? 9).map (fun i => (i.zero, i.size, i.bytes)) = some (some (.string ⟨#[]⟩), 1, 16) := by kernel_rfl
theorem RefB.outs {w : World} {B q : Nat} {b : Bk} (h : RefB w B q b) : ∃ a c, ∀ W, Below w.heap.size w W → W.cell? ⟨q, 0, none⟩ = some (.slice a b.1.length c) ∧ ∀ i g, b.1[i]? = some g → ∃ gg, a = some ⟨gg, 0, none⟩ ∧ W.cell? ⟨gg, i * 6 + 3, none⟩ = some (.int .i64 (outG g)) := by
 obtain ⟨vG, vL, vS, h1, h2, h3, h4, h5⟩ := h
 have hq : ∀ W, Below w.heap.size w W → W.cell? ⟨q, 0, none⟩ = some vG := fun W hb => by
  rw [cell_of_heap ((hb.block q (Array.getElem?_eq_some_iff.1 h1).1).trans h1)]; rfl
 rcases h2.forms with ⟨rfl, h0⟩ | ⟨g, cap, rfl, _, hlt, _, _, hc⟩
 ·exact ⟨none, 0, fun W hb => ⟨by rw [hq W hb, h0]; rfl, fun i x hx => by rw [h0] at hx; simp at hx⟩⟩
 ·exact ⟨_, cap, fun W hb => ⟨hq W hb, fun i x hx => ⟨g, rfl, (hb.cell (p := ⟨g, i * 6 + 3, none⟩) hlt).trans (hc i x 3 hx (by decide))⟩⟩⟩
theorem outOk_of {b : Bk} (hw : WfB b) : OutOk b.1 := fun g hg => by
 obtain ⟨⟨_, h1, _, _⟩, h2⟩ := hw.sums g hg
 unfold okSu mostS at h2
 simp only [Bool.and_eq_true, decide_eq_true_eq] at h2
 exact ⟨h1, h2.2.1⟩
theorem class_cases (all a : Int) : (0 < all ∧ 100 * a < 80 * all ∧ classG all a = clA) ∨ (0 < all ∧ ¬ 100 * a < 80 * all ∧ 100 * a < 95 * all ∧ classG all a = clB) ∨ (0 < all ∧ ¬ 100 * a < 80 * all ∧ ¬ 100 * a < 95 * all ∧ classG all a = clC) ∨ (¬ 0 < all ∧ classG all a = clC) := by
 unfold classG
 by_cases h0 : 0 < all
 ·by_cases h1 : 100 * a < 80 * all
  ·exact Or.inl ⟨h0, h1, by rw [if_pos ⟨h0, h1⟩]⟩
  ·by_cases h2 : 100 * a < 95 * all
   ·exact Or.inr (Or.inl ⟨h0, h1, h2, by rw [if_neg fun h => h1 h.2, if_pos ⟨h0, h2⟩]⟩)
   ·exact Or.inr (Or.inr (Or.inl ⟨h0, h1, h2, by rw [if_neg fun h => h1 h.2, if_neg fun h => h2 h.2]⟩))
 ·exact Or.inr (Or.inr (Or.inr ⟨h0, by rw [if_neg fun h => h0 h.1, if_neg fun h => h0 h.1]⟩))
theorem rclasses_any (w : World) (B q : Nat) (b : Bk) (hR : RefB w B q b) (hw : WfB b) :
  Calls Tryz.prog 21 #[.pointer (some ⟨q, 0, none⟩)] w fun r w' => ∃ v, r = .returned v ∧ encS.Row w' w.heap.size 9 v (classesG b.1 b.1.length) ∧ Below w.heap.size w w' := by
 obtain ⟨i0, hi, hz0, hz1, hz2⟩ := info_parts Tryz.infoSt
 obtain ⟨aG, cG, hS⟩ := hR.outs
 have hl30 := hw.gl
 have hOk := outOk_of hw
 obtain ⟨m, hm⟩ : ∃ m, b.1 = m := ⟨_, rfl⟩
 rw [hm] at hS hl30 hOk ⊢
 have HS : Hid (∀ W, Below w.heap.size w W → W.cell? ⟨q, 0, none⟩ = some (.slice aG m.length cG) ∧ ∀ i g, m[i]? = some g → ∃ gg, aG = some ⟨gg, 0, none⟩ ∧ W.cell? ⟨gg, i * 6 + 3, none⟩ = some (.int .i64 (outG g))) := hS
 have HOk : Hid (OutOk m) := hOk
 obtain ⟨ln, hln⟩ : ∃ ln, m.length = ln := ⟨_, rfl⟩
 have HN : Hid (m.length = ln) := hln
 rw [hln] at HS hl30 ⊢
 obtain ⟨sa, sb⟩ := outsG_bound hOk
 rw [hln] at sb
 have HAb : Hid (∀ n i k, 0 ≤ frontG m n i k ∧ frontG m n i k ≤ 65970697666560 * (k : Int)) := fun n i k => frontG_bound hOk n i k
 have HTb : Hid (∀ k, 0 ≤ outsG (m.take k) ∧ (k ≤ ln → outsG (m.take k) ≤ 65970697666560 * (k : Int))) := fun k => by
  have h1 := outsG_bound (hOk.take k)
  refine ⟨h1.1, fun hk => ?_⟩
  have e : (m.take k).length = k := by rw [List.length_take, hln, Nat.min_eq_left hk]
  rw [e] at h1
  exact h1.2
 clear hR hw hm hS hOk hln
 go_enter Tryz.func21, Tryz.ntmps21
 go_wp2
 go_loopw [3, 4] (fun va vi wr => ∃ k : Nat, k ≤ ln ∧ vi = .int .i64 k ∧ va = .int .i64 (outsG (m.take k)) ∧ wr = w) (fun _ vi _ => ln - (RowKit.intOf vi).toNat)
 case atStart => exact ⟨0, Nat.zero_le _, rfl, rfl, rfl⟩
 case round =>
  obtain ⟨k, hk, rfl, rfl, rfl⟩ := hrel
  obtain ⟨c0, hc⟩ := HS.out wr (Below.refl _ _)
  by_cases hlt : k < ln
  ·obtain ⟨g, hg⟩ : ∃ g, m[k]? = some g := ⟨_, List.getElem?_eq_getElem (by rw [HN.out]; exact hlt)⟩
   obtain ⟨gg, rfl, c1⟩ := hc k g hg
   have HE : Hid (outsG (m.take (k + 1)) = outsG (m.take k) + outG g) := outsG_succ hg
   obtain ⟨b1, b2⟩ := HTb.out k
   have b2 := b2 hk
   obtain ⟨b3, b4⟩ := HOk.out g (List.mem_of_getElem? hg)
   clear hc hg
   generalize outsG (m.take k) = S at *
   generalize outG g = og at *
   go_wp2
   go_roundw
   case rel => exact ⟨k + 1, by omega, by go_num, by rw [HE.out], by first | rfl | trivial⟩
   case measure => simp [RowKit.intOf]; omega
  ·have hkn : ln = k := by omega
   subst hkn
   have e : m.take ln = m := List.take_of_length_le (by rw [HN.out]; exact Nat.le_refl _)
   rw [e]
   have hall : outsG m ≤ 1979120929996800 := by omega
   obtain ⟨all, hal⟩ : ∃ all, outsG m = all := ⟨_, rfl⟩
   have HAll : Hid (outsG m = all) := hal
   rw [hal] at sa sb hall ⊢
   clear e hal hc
   obtain ⟨W0, hW0⟩ : ∃ W0, W0 = wr := ⟨_, rfl⟩
   subst hW0
   go_wp2
   go_loopw [5, 6] (fun vo vi wr2 => ∃ i : Nat, i ≤ ln ∧ vi = .int .i64 i ∧ encS.Row wr2 W0.heap.size 9 vo (classesG m i) ∧ Below W0.heap.size W0 wr2) (fun _ vi _ => ln - (RowKit.intOf vi).toNat)
   case atStart => exact ⟨0, Nat.zero_le _, rfl, World.ownsRow_nil _ _ _ _, Below.refl _ _⟩
   case round =>
    rename_i vo
    obtain ⟨w2, hw2⟩ : ∃ w2, w2 = wr := ⟨_, rfl⟩
    subst hw2
    obtain ⟨i, hii, rfl, hrow, hb2⟩ := hrel
    obtain ⟨ao, co, rfl⟩ := hrow.shape
    have HRow : Hid (encS.Row w2 W0.heap.size 9 (.slice ao (classesG m i).length co) (classesG m i)) := hrow
    have HB2 : Hid (Below W0.heap.size W0 w2) := hb2
    obtain ⟨c0, hc⟩ := HS.out w2 hb2
    rw [classesG_len m (by rw [HN.out]; exact hii)]
    clear hrow
    by_cases hlt2 : i < ln
    ·obtain ⟨g, hg⟩ : ∃ g, m[i]? = some g := ⟨_, List.getElem?_eq_getElem (by rw [HN.out]; exact hlt2)⟩
     obtain ⟨gg, rfl, c1⟩ := hc i g hg
     have HCl : Hid (classesG m (i + 1) = classesG m i ++ [classG all (frontG m (outG g) i ln)]) := by
      show _ = _
      rw [classesG_succ hg]
      unfold classAt
      rw [HAll.out, HN.out]
     obtain ⟨og1, og2⟩ := HOk.out g (List.mem_of_getElem? hg)
     have HSg : Hid (∀ W, Below W0.heap.size W0 W → W.cell? ⟨q, 0, none⟩ = some (.slice (some ⟨gg, 0, none⟩) ln cG) ∧ W.cell? ⟨gg, i * 6 + 3, none⟩ = some (.int .i64 (outG g)) ∧ ∀ k x, m[k]? = some x → W.cell? ⟨gg, k * 6 + 3, none⟩ = some (.int .i64 (outG x))) := fun W hb => by
      obtain ⟨h1, h2⟩ := HS.out W hb
      refine ⟨h1, ?_, fun k x hx => ?_⟩
      ·obtain ⟨g9, e9, h9⟩ := h2 i g hg
       cases e9
       exact h9
      ·obtain ⟨g9, e9, h9⟩ := h2 k x hx
       cases e9
       exact h9
     clear hc hg
     generalize outG g = n at *
     go_wp2
     go_loopw [7, 8] (fun va vk wr3 => ∃ k : Nat, k ≤ ln ∧ vk = .int .i64 k ∧ va = .int .i64 (frontG m n i k) ∧ Below w2.heap.size w2 wr3) (fun _ vk _ => ln - (RowKit.intOf vk).toNat)
     case atStart => exact ⟨0, Nat.zero_le _, rfl, rfl, Below.refl _ _⟩
     case round =>
      obtain ⟨k, hk, rfl, rfl, hb3⟩ := hrel
      have HB3 : Hid (Below w2.heap.size w2 wr) := hb3
      have HB03 : Hid (Below W0.heap.size W0 wr) := HB2.out.trans (hb3.mono HB2.out.size)
      obtain ⟨f0, f1, _⟩ := HSg.out wr HB03.out
      by_cases hlt3 : k < ln
      ·obtain ⟨x, hx⟩ : ∃ x, m[k]? = some x := ⟨_, List.getElem?_eq_getElem (by rw [HN.out]; exact hlt3)⟩
       have HA := frontG_succ (n := n) (i := i) hx
       have hd := fun d => HSg.out (wr.drewN d) (below_drewN HB03.out d)
       have d0 := fun d => (hd d).1
       have d1 := fun d => (hd d).2.1
       have d2 := fun d => (hd d).2.2 k x hx
       obtain ⟨a1, a2⟩ := HAb.out n i k
       obtain ⟨x1, x2⟩ := HOk.out x (List.mem_of_getElem? hx)
       unfold rankG at HA
       have HSw : Hid (∀ W, Below W0.heap.size W0 W → W.cell? ⟨q, 0, none⟩ = some (.slice (some ⟨gg, 0, none⟩) ln cG) ∧ W.cell? ⟨gg, k * 6 + 3, none⟩ = some (.int .i64 (outG x))) := fun W hb => ⟨(HSg.out W hb).1, (HSg.out W hb).2.2 k x hx⟩
       clear hd hx c0 c1
       generalize frontG m n i k = A at *
       generalize outG x = o at *
       by_cases g1 : n < o
       ·have g1d : decide (o > n) = true := decide_eq_true g1
        rw [decide_eq_true g1, Bool.true_or, if_pos rfl] at HA
        have HE : Hid (frontG m n i (k + 1) = A + o) := HA
        clear HA
        go_wp2
        go_quiet (fail)
        have HBn : Hid (Below w2.heap.size w2 (wr.drewN nq)) := below_drewN HB3.out nq
        obtain ⟨z0, z1⟩ := HSw.out (wr.drewN nq) (below_drewN HB03.out nq)
        clear d0 d1 d2
        generalize wr.drewN nq = w5 at *
        go_wp2
        go_roundw
        case rel => exact ⟨k + 1, by omega, by go_num, by rw [HE.out], HBn.out⟩
        case measure => simp [RowKit.intOf]; omega
       ·have g1d : decide (o > n) = false := decide_eq_false g1
        rw [decide_eq_false g1, Bool.false_or] at HA
        by_cases g2 : o = n
        ·rw [decide_eq_true g2, Bool.true_and] at HA
         have g2d : (o == n) = true := by simpa using g2
         have g2e : n = o := g2.symm
         clear g2
         by_cases g3 : k < i
         ·have g3d : decide ((k : Int) < (i : Int)) = true := decide_eq_true (by omega)
          rw [decide_eq_true g3, if_pos rfl] at HA
          have HE : Hid (frontG m n i (k + 1) = A + o) := HA
          clear HA
          go_wp2
          go_quiet (fail)
          have HBn : Hid (Below w2.heap.size w2 (wr.drewN nq)) := below_drewN HB3.out nq
          obtain ⟨z0, z1⟩ := HSw.out (wr.drewN nq) (below_drewN HB03.out nq)
          clear d0 d1 d2
          generalize wr.drewN nq = w5 at *
          go_wp2
          go_roundw
          case rel => exact ⟨k + 1, by omega, by go_num, by rw [HE.out], HBn.out⟩
          case measure => simp [RowKit.intOf]; omega
         ·have g3d : decide ((k : Int) < (i : Int)) = false := decide_eq_false (by omega)
          rw [decide_eq_false g3, if_neg (by decide)] at HA
          have HE : Hid (frontG m n i (k + 1) = A) := HA
          clear HA
          go_wp2
          go_quiet (fail)
          have HBn : Hid (Below w2.heap.size w2 (wr.drewN nq)) := below_drewN HB3.out nq
          obtain ⟨z0, z1⟩ := HSw.out (wr.drewN nq) (below_drewN HB03.out nq)
          clear d0 d1 d2
          generalize wr.drewN nq = w5 at *
          go_wp2
          go_roundw
          case rel => exact ⟨k + 1, by omega, by go_num, by rw [HE.out], HBn.out⟩
          case measure => simp [RowKit.intOf]; omega
        ·rw [decide_eq_false g2, Bool.false_and, if_neg (by decide)] at HA
         have g2d : (o == n) = false := by simpa using g2
         have HE : Hid (frontG m n i (k + 1) = A) := HA
         clear HA
         go_wp2
         go_quiet (fail)
         have HBn : Hid (Below w2.heap.size w2 (wr.drewN nq)) := below_drewN HB3.out nq
         obtain ⟨z0, z1⟩ := HSw.out (wr.drewN nq) (below_drewN HB03.out nq)
         clear d0 d1 d2
         generalize wr.drewN nq = w5 at *
         go_wp2
         go_roundw
         case rel => exact ⟨k + 1, by omega, by go_num, by rw [HE.out], HBn.out⟩
         case measure => simp [RowKit.intOf]; omega
      ·have hkn : ln = k := by omega
       subst hkn
       obtain ⟨a1, a2⟩ := HAb.out n i ln
       obtain ⟨A, hA⟩ : ∃ A, frontG m n i ln = A := ⟨_, rfl⟩
       rw [hA] at HCl a1 a2 ⊢
       have ha : A ≤ 1979120929996800 := by omega
       have HOw : Hid (wr.ownsRow W0.heap.size 9 1 (.slice ao i co) i (encS.flat (classesG m i))) := by
        have := HRow.out.below HB3.out
        unfold Enc.Row at this
        rw [classesG_len m (by rw [HN.out]; omega)] at this
        exact this
       have hsz := HB03.out.size
       clear hA c0 c1 hb3
       rcases class_cases all A with ⟨q1, q2, q9⟩ | ⟨q1, q2, q3, q9⟩ | ⟨q1, q2, q3, q9⟩ | ⟨q1, q9⟩
       ·rw [q9] at HCl
        go_wp2_with (at_builtin; refine wpList_append_lies _ rfl _ _ 57 rfl W0.heap.size 9 i0 (.string ⟨#[]⟩) 1 16 Tryz.underlying57 hi hz0 hz1 hz2 rfl (by decide) (.slice ao i co) i (encS.flat (classesG m i)) rfl (HOw.out.alloc _) ⟨wr.heap.size, 0, none⟩ 1 1 (encS.enc clA) rfl rfl (World.news_of_block (heap_alloc_new wr _)) (encS.one _) (by decide) (by unfold maxLen; omega) (by omega) (by simp; omega) _ rfl ?_; intro g4 cap4 w4 own4 gr4 _ _; have HB4 : Hid (Below W0.heap.size W0 w4) := (HB03.out.alloc HB03.out.size _).grown gr4 (by simp; omega) (fun kk hkk => (HOw.out.lt kk hkk).1); have HO4 : Hid (w4.ownsRow W0.heap.size 9 1 (.slice (some ⟨g4, 0, none⟩) (i + 1) cap4) (i + 1) (encS.flat (classesG m i) ++ encS.enc clA)) := own4; clear own4 gr4)
        go_roundw
        case rel => exact ⟨i + 1, by omega, by go_num, by rw [HCl.out]; unfold Enc.Row; rw [List.length_append, classesG_len m (by rw [HN.out]; omega), encS.flat_append, encS.flat_one]; exact HO4.out, HB4.out⟩
        case measure => simp [RowKit.intOf]; omega
       ·rw [q9] at HCl
        go_wp2_with (at_builtin; refine wpList_append_lies _ rfl _ _ 57 rfl W0.heap.size 9 i0 (.string ⟨#[]⟩) 1 16 Tryz.underlying57 hi hz0 hz1 hz2 rfl (by decide) (.slice ao i co) i (encS.flat (classesG m i)) rfl (HOw.out.alloc _) ⟨wr.heap.size, 0, none⟩ 1 1 (encS.enc clB) rfl rfl (World.news_of_block (heap_alloc_new wr _)) (encS.one _) (by decide) (by unfold maxLen; omega) (by omega) (by simp; omega) _ rfl ?_; intro g4 cap4 w4 own4 gr4 _ _; have HB4 : Hid (Below W0.heap.size W0 w4) := (HB03.out.alloc HB03.out.size _).grown gr4 (by simp; omega) (fun kk hkk => (HOw.out.lt kk hkk).1); have HO4 : Hid (w4.ownsRow W0.heap.size 9 1 (.slice (some ⟨g4, 0, none⟩) (i + 1) cap4) (i + 1) (encS.flat (classesG m i) ++ encS.enc clB)) := own4; clear own4 gr4)
        go_roundw
        case rel => exact ⟨i + 1, by omega, by go_num, by rw [HCl.out]; unfold Enc.Row; rw [List.length_append, classesG_len m (by rw [HN.out]; omega), encS.flat_append, encS.flat_one]; exact HO4.out, HB4.out⟩
        case measure => simp [RowKit.intOf]; omega
       ·rw [q9] at HCl
        go_wp2_with (at_builtin; refine wpList_append_lies _ rfl _ _ 57 rfl W0.heap.size 9 i0 (.string ⟨#[]⟩) 1 16 Tryz.underlying57 hi hz0 hz1 hz2 rfl (by decide) (.slice ao i co) i (encS.flat (classesG m i)) rfl (HOw.out.alloc _) ⟨wr.heap.size, 0, none⟩ 1 1 (encS.enc clC) rfl rfl (World.news_of_block (heap_alloc_new wr _)) (encS.one _) (by decide) (by unfold maxLen; omega) (by omega) (by simp; omega) _ rfl ?_; intro g4 cap4 w4 own4 gr4 _ _; have HB4 : Hid (Below W0.heap.size W0 w4) := (HB03.out.alloc HB03.out.size _).grown gr4 (by simp; omega) (fun kk hkk => (HOw.out.lt kk hkk).1); have HO4 : Hid (w4.ownsRow W0.heap.size 9 1 (.slice (some ⟨g4, 0, none⟩) (i + 1) cap4) (i + 1) (encS.flat (classesG m i) ++ encS.enc clC)) := own4; clear own4 gr4)
        go_roundw
        case rel => exact ⟨i + 1, by omega, by go_num, by rw [HCl.out]; unfold Enc.Row; rw [List.length_append, classesG_len m (by rw [HN.out]; omega), encS.flat_append, encS.flat_one]; exact HO4.out, HB4.out⟩
        case measure => simp [RowKit.intOf]; omega
       ·rw [q9] at HCl
        go_wp2_with (at_builtin; refine wpList_append_lies _ rfl _ _ 57 rfl W0.heap.size 9 i0 (.string ⟨#[]⟩) 1 16 Tryz.underlying57 hi hz0 hz1 hz2 rfl (by decide) (.slice ao i co) i (encS.flat (classesG m i)) rfl (HOw.out.alloc _) ⟨wr.heap.size, 0, none⟩ 1 1 (encS.enc clC) rfl rfl (World.news_of_block (heap_alloc_new wr _)) (encS.one _) (by decide) (by unfold maxLen; omega) (by omega) (by simp; omega) _ rfl ?_; intro g4 cap4 w4 own4 gr4 _ _; have HB4 : Hid (Below W0.heap.size W0 w4) := (HB03.out.alloc HB03.out.size _).grown gr4 (by simp; omega) (fun kk hkk => (HOw.out.lt kk hkk).1); have HO4 : Hid (w4.ownsRow W0.heap.size 9 1 (.slice (some ⟨g4, 0, none⟩) (i + 1) cap4) (i + 1) (encS.flat (classesG m i) ++ encS.enc clC)) := own4; clear own4 gr4)
        go_roundw
        case rel => exact ⟨i + 1, by omega, by go_num, by rw [HCl.out]; unfold Enc.Row; rw [List.length_append, classesG_len m (by rw [HN.out]; omega), encS.flat_append, encS.flat_one]; exact HO4.out, HB4.out⟩
        case measure => simp [RowKit.intOf]; omega
    ·have hin : i = ln := by omega
     subst hin
     go_wp2
     go_ret
     exact ⟨_, rfl, by have := HRow.out; rw [classesG_len m (by rw [HN.out]; exact Nat.le_refl _)] at this; exact this, hb2⟩
end Go.Proofs.YtppodkkefegbkaaGreatDoor
namespace Go.Proofs.YtppodkkefegbkaaGreatDoor
open Go.Joins Go.Deep
open Go.Sort Go.Lib
open Go.ChangeMaps (open_string shut_string)
open Go.ChangeShapes Go.WideShapes Go.ChangeAt Go.WideMaps Go.WideElems Go.RowKit
theorem Tryz.cLin : Tryz.prog.cellsOf 48 = 5 := by kernel_rfl
theorem open_line_cells {H : Type} {enc : TypeId × Value → H} {W : World} {base n : Nat} {cs : List Value} {x : DataW H × List MemPlace} {sp : Nat → Bool} {hd : Bool} (hl : cs.length = 5) (h : DataW.trod enc Tryz.prog W base sp hd n 48 cs = some x) :
  ∃ e : Ln, cs = encN e ∧ SzL e := by
 match cs, hl with
 | [c0, c1, c2, c3, c4], _ =>
  obtain ⟨xs, m, _, _, _, hlen, hg⟩ := DataW.trod_struct Tryz.underlying48 h
  match xs, hlen with
  | [y0, y1, y2], _ =>
   have h0 := hg 0 _ rfl
   have h1 := hg 1 _ rfl
   have h2 := hg 2 _ rfl
   simp [Tryz.cStr, Tryz.cInt, Tryz.cPla] at h0 h1 h2
   obtain ⟨f, f0, f1, f2, wf⟩ := open_pl h0
   obtain ⟨k, e0, _, wk⟩ := DataW.trod_string Tryz.underlying9 h1
   obtain ⟨z, e5, _, wn⟩ := DataW.trod_int Tryz.underlying3 h2
   simp at e0 e5
   subst e0 e5 f0 f1 f2
   exact ⟨(f, k, z), rfl, ⟨wf, wk⟩⟩
theorem open_lines {H : Type} {enc : TypeId × Value → H} {W : World} {b0 : Nat} {v : Value} {dd : DataW H} {ps : List MemPlace} {sp : Nat → Bool} {hd : Bool} (hv : Value.okWide Tryz.prog W .any b0 23 v) (h : DataW.Trod enc Tryz.prog W 0 sp hd 23 v dd ps) :
  (∃ ad c, v = .slice ad 0 c) ∨ ∃ b off c l, 1 ≤ l.length ∧ l.length ≤ maxLen ∧ l.length ≤ c ∧ v = .slice (some ⟨b, off, none⟩) l.length c ∧ Lns W b off l ∧ ∀ e ∈ l, SzL e := by
 obtain ⟨a0, len, cap, rfl⟩ := okWide_slice Tryz.underlying23 hv
 obtain ⟨fuel, hf⟩ := h
 rcases open_slice Tryz.underlying23 hf with ⟨hcs, _⟩ | ⟨a, len', cap', m, n, D, Pq, hcs, _, hl, hm, hmm, _, hx⟩
 ·simp [Value.cells] at hcs
  obtain ⟨rfl, rfl, rfl⟩ := hcs
  exact Or.inl ⟨none, 0, rfl⟩
 ·simp [Value.cells] at hcs
  obtain ⟨rfl, rfl, rfl⟩ := hcs
  rcases Nat.eq_zero_or_pos len with rfl | hpos
  ·exact Or.inl ⟨_, _, rfl⟩
  ·right
   rw [Tryz.cLin] at hx
   have hlm : len ≤ m := by rw [hmm]; split <;> omega
   obtain ⟨f, hfq⟩ := choose_lt (α := Ln) (n := len) (p := fun i e => W.cells? 0 (a.add (i * 5)) 5 = some (encN e) ∧ SzL e) (fun i hi => by
    obtain ⟨cs', h1, h2⟩ := hx i (by omega)
    obtain ⟨_, hlen, _⟩ := World.cells?_some h1
    obtain ⟨e, rfl, hz⟩ := open_line_cells hlen h2
    exact ⟨e, h1, hz⟩)
   have hcell : ∀ i c, i < len → c < 5 → W.cell? (a.add (i * 5 + c)) = (encN (f i))[c]? := by
    intro i c hi hc
    have := (World.cells?_some (hfq i hi).1).2.2 c hc
    rw [add_add] at this
    exact this
   have hsp : a.spot = none := by
    have := World.cell?_spot (hcell 0 0 hpos (by decide))
    simpa [Addr.add] using this
   obtain ⟨b, off, spot⟩ := a
   simp only at hsp
   subst hsp
   have hsz : ((List.range len).map f).length = len := by simp
   have hget : ∀ i e, ((List.range len).map f)[i]? = some e → i < len ∧ e = f i := fun i e he => by
    have hi := (List.getElem?_eq_some_iff.1 he).1
    rw [hsz] at hi
    refine ⟨hi, ?_⟩
    rw [List.getElem?_map, List.getElem?_range hi] at he
    simpa using he.symm
   refine ⟨b, off, cap, (List.range len).map f, by rw [hsz]; exact hpos, by rw [hsz]; omega, by rw [hsz]; exact hl, by rw [hsz], ⟨?_, ?_⟩, ?_⟩
   ·have := hcell 0 0 hpos (by decide)
    rw [WideShapes.add_plain] at this
    exact cell_lt (this.trans rfl)
   ·intro k e he
    obtain ⟨hk, rfl⟩ := hget k e he
    have hc : ∀ c, c < 5 → W.cell? ⟨b, off + k * 5 + c, none⟩ = (encN (f k))[c]? := fun c hc => by
     have := hcell k c hk hc
     rw [WideShapes.add_plain, ← Nat.add_assoc] at this
     exact this
    exact ⟨hc 0 (by decide), hc 1 (by decide), hc 2 (by decide), hc 3 (by decide), hc 4 (by decide)⟩
   ·intro e he
    obtain ⟨k, hk⟩ := List.getElem?_of_mem he
    obtain ⟨hk', rfl⟩ := hget k e hk
    exact (hfq k hk').2
end Go.Proofs.YtppodkkefegbkaaGreatDoor
namespace Go.Proofs.YtppodkkefegbkaaGreatDoor
open Go.RowKit Go.Lib Go.Sort
theorem lix_any (g : Nat) (cb : Array Value) (p : Ln → Bool) (eg : ∀ args w, (callFunc g args).run Tryz.prog w = .ok (.enter g args) w) (pp : Option Addr) (l : List Ln) (cap : Nat) (w : World) (h : ShIn w pp l) (hn : l.length ≤ 1000)
  (hf : ∀ (x : Ln), x ∈ l → ∀ W : World, Below w.heap.size w W → Calls Tryz.prog g ((#[agN x] : Array Value) ++ cb) W fun e w' => e = .returned (.bool (p x)) ∧ Below W.heap.size W w') :
  Calls Tryz.prog 30 #[.slice pp l.length cap, .func (.func g) #[] cb] w fun e w' => ((e = .returned (.int .i64 (-1)) ∧ ∀ (j : Nat) (y : Ln), l[j]? = some y → p y = false) ∨ ∃ (k : Nat) (x : Ln), l[k]? = some x ∧ p x = true ∧ (∀ (j : Nat) (y : Ln), j < k → l[j]? = some y → p y = false) ∧ e = .returned (.int .i64 (k : Int))) ∧ Below w.heap.size w w' := by
 have HE : Hid (∀ (W : World) (k : Nat) (x : Ln), Below w.heap.size w W → l[k]? = some x → ∃ bq off, pp = some ⟨bq, off, none⟩ ∧ LineAt W bq (off + k * 5) x) := fun W k x hb hx => h.line hb hx
 have HF : Hid (∀ (x : Ln), x ∈ l → ∀ W : World, Below w.heap.size w W → Calls Tryz.prog g ((#[agN x] : Array Value) ++ cb) W fun e w' => e = .returned (.bool (p x)) ∧ Below W.heap.size W w') := hf
 obtain ⟨ln, hln⟩ : ∃ ln, l.length = ln := ⟨_, rfl⟩
 have HN : Hid (ln = l.length) := hln.symm
 rw [hln] at hn ⊢
 clear h hf hln
 go_enter Tryz.func30, Tryz.ntmps30
 go_wp2
 go_loopw [5, 8] (fun _ vi wr => ∃ k : Nat, k ≤ ln ∧ vi = .int .i64 k ∧ Below w.heap.size w wr ∧ ∀ (j : Nat) (y : Ln), j < k → l[j]? = some y → p y = false) (fun _ vi _ => ln - (RowKit.intOf vi).toNat)
 case atStart => exact ⟨0, Nat.zero_le _, rfl, Below.refl _ _, fun j y hj => absurd hj (Nat.not_lt_zero _)⟩
 case round =>
  obtain ⟨k, hk, rfl, hb, hno⟩ := hrel
  have HB : Hid (Below w.heap.size w wr) := hb
  have HS : Hid (∀ (j : Nat) (y : Ln), j < k → l[j]? = some y → p y = false) := hno
  clear hno
  by_cases hlt : k < ln
  ·obtain ⟨x, hx⟩ : ∃ x, l[k]? = some x := ⟨_, List.getElem?_eq_getElem (by rw [← HN.out]; exact hlt)⟩
   have HX : Hid (l[k]? = some x) := hx
   obtain ⟨bq, off, rfl, c0, c1, c2, c3, c4⟩ := HE.out wr k x hb hx
   have hC := HF.out x (List.mem_of_getElem? hx) wr hb
   have HS1 : Hid (p x = false → ∀ (j : Nat) (y : Ln), j < k + 1 → l[j]? = some y → p y = false) := fun hq j y hj hy => by
    rcases Nat.lt_or_ge j k with q | q
    ·exact HS.out j y q hy
    ·obtain rfl : j = k := by omega
     rw [HX.out] at hy
     cases hy
     exact hq
   have hltz : (k : Int) < (ln : Int) := by omega
   clear hx hb
   cases hq : p x with
   | true =>
    rw [hq] at hC
    have HQ : Hid (p x = true) := hq
    have HC : Hid (Calls Tryz.prog g ((#[agN x] : Array Value) ++ cb) wr _) := hC
    clear hq hC
    obtain ⟨x', hx'⟩ : ∃ x', x = x' := ⟨_, rfl⟩
    obtain ⟨⟨xz, xr, xb⟩, xl, xn⟩ := x
    simp only at c0 c1 c2 c3 c4
    unfold agN at HC
    go_wp2_with (go_at_fn g; refine HC.out.mono ?_; rintro r w2 ⟨rfl, hb2⟩; have HB2 : Hid (Below w.heap.size w w2) := HB.out.trans (hb2.mono HB.out.size); clear hb2)
    go_ret
    exact ⟨Or.inr ⟨k, _, HX.out, HQ.out, HS.out, rfl⟩, HB2.out⟩
   | false =>
    rw [hq] at hC
    have HQ : Hid (p x = false) := hq
    have HC : Hid (Calls Tryz.prog g ((#[agN x] : Array Value) ++ cb) wr _) := hC
    clear hq hC
    obtain ⟨⟨xz, xr, xb⟩, xl, xn⟩ := x
    simp only at c0 c1 c2 c3 c4
    unfold agN at HC
    go_wp2_with (go_at_fn g; refine HC.out.mono ?_; rintro r w2 ⟨rfl, hb2⟩; have HB2 : Hid (Below w.heap.size w w2) := HB.out.trans (hb2.mono HB.out.size); clear hb2)
    go_roundw
    case rel => exact ⟨k + 1, by omega, by go_num, HB2.out, HS1.out HQ.out⟩
    case measure => simp [RowKit.intOf]; omega
  ·have HA : Hid (∀ (j : Nat) (y : Ln), l[j]? = some y → p y = false) := fun j y hy => HS.out j y (by have := (List.getElem?_eq_some_iff.1 hy).1; rw [← HN.out] at this; omega) hy
   go_wp2
   go_ret
   exact ⟨Or.inl ⟨rfl, HA.out⟩, HB.out⟩
theorem lct_any (g : Nat) (cb : Array Value) (p : Ln → Bool) (eg : ∀ args w, (callFunc g args).run Tryz.prog w = .ok (.enter g args) w) (pp : Option Addr) (l : List Ln) (cap : Nat) (w : World) (h : ShIn w pp l) (hn : l.length ≤ 1000)
  (hf : ∀ (x : Ln), x ∈ l → ∀ W : World, Below w.heap.size w W → Calls Tryz.prog g ((#[agN x] : Array Value) ++ cb) W fun e w' => e = .returned (.bool (p x)) ∧ Below W.heap.size W w') :
  Calls Tryz.prog 78 #[.slice pp l.length cap, .func (.func g) #[] cb] w fun e w' => e = .returned (.bool (l.any p)) ∧ Below w.heap.size w w' := by
 have hI : Calls Tryz.prog 30 #[.slice pp l.length cap, .func (.func g) #[] cb] w fun e w' => (∃ n : Int, e = .returned (.int .i64 n) ∧ l.any p = decide (0 ≤ n)) ∧ Below w.heap.size w w' := (lix_any g cb p eg pp l cap w h hn hf).mono fun e w' ⟨h1, h2⟩ => by
  refine ⟨?_, h2⟩
  rcases h1 with ⟨rfl, h3⟩ | ⟨k, x, hx, hp, _, rfl⟩
  ·refine ⟨-1, rfl, ?_⟩
   rw [decide_eq_false (by omega), List.any_eq_false]
   intro y hy
   obtain ⟨j, hj⟩ := List.getElem?_of_mem hy
   rw [h3 j y hj]; decide
  ·refine ⟨k, rfl, ?_⟩
   rw [decide_eq_true (by omega)]
   exact List.any_eq_true.2 ⟨x, List.mem_of_getElem? hx, hp⟩
 have HI : Hid (Calls Tryz.prog _ _ _ _) := hI
 generalize l.length = ln at *
 clear h hn hf hI
 go_enter Tryz.func78, Tryz.ntmps78
 go_wp2_with (go_at_call 30; refine HI.out.mono ?_; rintro r w2 ⟨⟨n, rfl, hd⟩, hb2⟩; have HD : Hid (l.any p = decide (0 ≤ n)) := hd; have HB2 : Hid (Below w.heap.size w w2) := hb2; clear hb2 hd)
 go_ret
 exact ⟨by rw [HD.out]; rfl, HB2.out⟩
theorem due_far {c : ByteArray} {last day days : Int} (hl : In64 last) (hd : In64 day) (h1 : daysC c = days) (h0 : 0 < days) (h9 : days ≤ 1000) : dueC c last day = (decide (last ≤ day) && decide (days ≤ day - last)) := by
 unfold In64 at hl hd
 rw [dueC_of h1 (Int.le_of_lt h0) rfl]
 by_cases h : day < last
 ·rw [if_pos h, decide_eq_false (by omega), Bool.false_and]
 ·rw [if_neg h, decide_eq_true (by omega : last ≤ day), Bool.true_and, IntKind.wrap_i64]
  by_cases h2 : days ≤ day - last
  ·rw [decide_eq_true h2, decide_eq_true (by omega), decide_eq_true (by omega)]; rfl
  ·rw [decide_eq_false h2]
   by_cases h3 : last ≤ (day - days + 9223372036854775808) % 18446744073709551616 - 9223372036854775808
   ·rw [decide_eq_true h3, decide_eq_false (by omega)]; rfl
   ·rw [decide_eq_false h3]; rfl
def dU (c : ByteArray) : Int := if daysC c < 0 then 0 else daysC c
def dK (c : ByteArray) : Bool := decide (0 ≤ daysC c)
theorem daysC_cases (c : ByteArray) : (0 < daysC c ∧ daysC c ≤ 1000) ∨ daysC c = -1 := by
 unfold daysC
 repeat' split
 all_goals first | exact Or.inl ⟨by decide, by decide⟩ | exact Or.inr rfl
theorem daysOf_any (c : ByteArray) (w : World) : Calls Tryz.prog 45 #[.string c] w fun r w' => r = .returned (.tuple #[.int .u64 (dU c), .bool (dK c)]) ∧ w' = w := by
 have hn : clA ≠ clB ∧ clA ≠ clC ∧ clB ≠ clC := by decide
 obtain ⟨n1, n2, n3⟩ := hn
 by_cases hA : c = clA
 ·have x1 := sameW hA
  have hq : daysC c = 30 := by unfold daysC; rw [if_pos hA]
  rw [show dU c = 30 by unfold dU; rw [hq]; rfl, show dK c = true by unfold dK; rw [hq]; rfl]
  clear hA n1 n2 n3 hq
  go_enter Tryz.func45, Tryz.ntmps45
  go_wp2
  exact bodyPost_ret (v := .tuple #[.int .u64 30, .bool true]) (by simp [results, Tryz.results45, go_sem]) rfl ⟨rfl, rfl⟩
 by_cases hB : c = clB
 ·have x1 := otherW hA
  have x2 := sameW hB
  have hq : daysC c = 90 := by unfold daysC; rw [if_neg hA, if_pos hB]
  rw [show dU c = 90 by unfold dU; rw [hq]; rfl, show dK c = true by unfold dK; rw [hq]; rfl]
  clear hA n1 n2 n3 hq
  go_enter Tryz.func45, Tryz.ntmps45
  go_wp2
  exact bodyPost_ret (v := .tuple #[.int .u64 90, .bool true]) (by simp [results, Tryz.results45, go_sem]) rfl ⟨rfl, rfl⟩
 by_cases hC : c = clC
 ·have x1 := otherW hA
  have x2 := otherW hB
  have x3 := sameW hC
  have hq : daysC c = 180 := by unfold daysC; rw [if_neg hA, if_neg hB, if_pos hC]
  rw [show dU c = 180 by unfold dU; rw [hq]; rfl, show dK c = true by unfold dK; rw [hq]; rfl]
  clear hA n1 n2 n3 hq
  go_enter Tryz.func45, Tryz.ntmps45
  go_wp2
  exact bodyPost_ret (v := .tuple #[.int .u64 180, .bool true]) (by simp [results, Tryz.results45, go_sem]) rfl ⟨rfl, rfl⟩
 ·have x1 := otherW hA
  have x2 := otherW hB
  have x3 := otherW hC
  have hq : daysC c = -1 := by unfold daysC; rw [if_neg hA, if_neg hB, if_neg hC]
  rw [show dU c = 0 by unfold dU; rw [hq]; rfl, show dK c = false by unfold dK; rw [hq]; rfl]
  clear hA n1 n2 n3 hq
  go_enter Tryz.func45, Tryz.ntmps45
  go_wp2
  exact bodyPost_ret (v := .tuple #[.int .u64 0, .bool false]) (by simp [results, Tryz.results45, go_sem]) rfl ⟨rfl, rfl⟩
theorem cdue_any (c : ByteArray) (last day : Int) (hl : In64 last) (hd : In64 day) (w : World) :
  Calls Tryz.prog 17 #[.string c, .int .i64 last, .int .i64 day] w fun r w' => r = .returned (.bool (dueC c last day)) ∧ Below w.heap.size w w' := by
 have hD : Calls Tryz.prog 45 #[.string c] w _ := daysOf_any c w
 rcases daysC_cases c with ⟨h2, h3⟩ | h2
 ·have hu : dU c = daysC c := by unfold dU; rw [if_neg (by omega)]
  have hk : dK c = true := by unfold dK; exact decide_eq_true (by omega)
  have hq := due_far hl hd rfl h2 h3
  rw [hu, hk] at hD
  rw [hq]
  unfold In64 at hl hd
  generalize daysC c = days at *
  have HD : Hid (Calls Tryz.prog 45 #[.string c] w _) := hD
  clear hu hk hq hD
  by_cases h1 : last ≤ day
  ·rw [decide_eq_true h1, Bool.true_and]
   have h1d : decide (last ≤ day) = true := decide_eq_true h1
   have hu : IntKind.u64.wrap (IntKind.u64.wrap day - IntKind.u64.wrap last) = day - last := by rw [IntKind.wrap_u64, IntKind.wrap_u64, IntKind.wrap_u64]; omega
   go_enter Tryz.func17, Tryz.ntmps17
   go_wp2_with (go_at_call 45; refine HD.out.mono ?_; rintro r w2 ⟨rfl, hw⟩; have hw' := hw.symm; subst hw')
   go_ret
   exact ⟨rfl, Below.refl _ _⟩
  ·rw [decide_eq_false h1, Bool.false_and]
   have h1d : decide (last ≤ day) = false := decide_eq_false h1
   go_enter Tryz.func17, Tryz.ntmps17
   go_wp2_with (go_at_call 45; refine HD.out.mono ?_; rintro r w2 ⟨rfl, hw⟩; have hw' := hw.symm; subst hw')
   go_ret
   exact ⟨rfl, Below.refl _ _⟩
 ·have hu : dU c = 0 := by unfold dU; rw [if_pos (by omega)]
  have hk : dK c = false := by unfold dK; exact decide_eq_false (by omega)
  have hq : dueC c last day = false := by unfold dueC; rw [h2, if_pos (Or.inl (by decide))]
  rw [hu, hk] at hD
  rw [hq]
  have HD : Hid (Calls Tryz.prog 45 #[.string c] w _) := hD
  clear hu hk hq hD
  go_enter Tryz.func17, Tryz.ntmps17
  go_wp2_with (go_at_call 45; refine HD.out.mono ?_; rintro r w2 ⟨rfl, hw⟩; have hw' := hw.symm; subst hw')
  go_ret
  exact ⟨rfl, Below.refl _ _⟩
theorem five_more {w U : World} {q p : Nat} {T : TypeId} {a0 a1 a2 a3 a4 a5 a6 a7 a8 a9 a10 a11 a12 a13 : Value} (h : U.heap[q]? = some (.cells #[a0, a1, a2, a3, a4, a5, a6, a7, a8, a9, a10, a11, a12, a13] T (0, 0))) (hb : Below w.heap.size w U) (hq : w.heap.size ≤ q) (hp : p ≠ q) (v0 v1 v2 v3 v4 : Value) : ∃ W, (((((U.setCell ⟨q, 0, none⟩ v0).setCell ⟨q, 10, none⟩ v1).setCell ⟨q, 11, none⟩ v2).setCell ⟨q, 12, none⟩ v3).setCell ⟨q, 13, none⟩ v4) = W ∧ W.heap[q]? = some (.cells #[v0, a1, a2, a3, a4, a5, a6, a7, a8, a9, v1, v2, v3, v4] T (0, 0)) ∧ Below w.heap.size w W ∧ W.heap[p]? = U.heap[p]? := by
 have t0 := set_cell (cs' := #[v0, a1, a2, a3, a4, a5, a6, a7, a8, a9, a10, a11, a12, a13]) h 0 v0 rfl
 have t1 := set_cell (cs' := #[v0, a1, a2, a3, a4, a5, a6, a7, a8, a9, v1, a11, a12, a13]) t0 10 v1 rfl
 have t2 := set_cell (cs' := #[v0, a1, a2, a3, a4, a5, a6, a7, a8, a9, v1, v2, a12, a13]) t1 11 v2 rfl
 have t3 := set_cell (cs' := #[v0, a1, a2, a3, a4, a5, a6, a7, a8, a9, v1, v2, v3, a13]) t2 12 v3 rfl
 have t4 := set_cell (cs' := #[v0, a1, a2, a3, a4, a5, a6, a7, a8, a9, v1, v2, v3, v4]) t3 13 v4 rfl
 exact ⟨_, rfl, t4, (((((hb.setCell (p := ⟨q, 0, none⟩) hq v0).setCell (p := ⟨q, 10, none⟩) hq v1).setCell (p := ⟨q, 11, none⟩) hq v2).setCell (p := ⟨q, 12, none⟩) hq v3).setCell (p := ⟨q, 13, none⟩) hq v4), ((Below.heap_setCell _ ⟨q, 13, none⟩ v4 p hp).trans ((Below.heap_setCell _ ⟨q, 12, none⟩ v3 p hp).trans ((Below.heap_setCell _ ⟨q, 11, none⟩ v2 p hp).trans ((Below.heap_setCell _ ⟨q, 10, none⟩ v1 p hp).trans (Below.heap_setCell _ ⟨q, 0, none⟩ v0 p hp)))))⟩
theorem five_less {w U : World} {q p : Nat} {T : TypeId} {a0 a1 a2 a3 a4 a5 a6 a7 a8 a9 a10 a11 a12 a13 : Value} (h : U.heap[q]? = some (.cells #[a0, a1, a2, a3, a4, a5, a6, a7, a8, a9, a10, a11, a12, a13] T (0, 0))) (hb : Below w.heap.size w U) (hq : w.heap.size ≤ q) (hp : p ≠ q) (v0 v1 v2 v3 v4 : Value) : ∃ W, (((((U.setCell ⟨q, 0, none⟩ v0).setCell ⟨q, 7, none⟩ v1).setCell ⟨q, 8, none⟩ v2).setCell ⟨q, 9, none⟩ v3).setCell ⟨q, 13, none⟩ v4) = W ∧ W.heap[q]? = some (.cells #[v0, a1, a2, a3, a4, a5, a6, v1, v2, v3, a10, a11, a12, v4] T (0, 0)) ∧ Below w.heap.size w W ∧ W.heap[p]? = U.heap[p]? := by
 have t0 := set_cell (cs' := #[v0, a1, a2, a3, a4, a5, a6, a7, a8, a9, a10, a11, a12, a13]) h 0 v0 rfl
 have t1 := set_cell (cs' := #[v0, a1, a2, a3, a4, a5, a6, v1, a8, a9, a10, a11, a12, a13]) t0 7 v1 rfl
 have t2 := set_cell (cs' := #[v0, a1, a2, a3, a4, a5, a6, v1, v2, a9, a10, a11, a12, a13]) t1 8 v2 rfl
 have t3 := set_cell (cs' := #[v0, a1, a2, a3, a4, a5, a6, v1, v2, v3, a10, a11, a12, a13]) t2 9 v3 rfl
 have t4 := set_cell (cs' := #[v0, a1, a2, a3, a4, a5, a6, v1, v2, v3, a10, a11, a12, v4]) t3 13 v4 rfl
 exact ⟨_, rfl, t4, (((((hb.setCell (p := ⟨q, 0, none⟩) hq v0).setCell (p := ⟨q, 7, none⟩) hq v1).setCell (p := ⟨q, 8, none⟩) hq v2).setCell (p := ⟨q, 9, none⟩) hq v3).setCell (p := ⟨q, 13, none⟩) hq v4), ((Below.heap_setCell _ ⟨q, 13, none⟩ v4 p hp).trans ((Below.heap_setCell _ ⟨q, 9, none⟩ v3 p hp).trans ((Below.heap_setCell _ ⟨q, 8, none⟩ v2 p hp).trans ((Below.heap_setCell _ ⟨q, 7, none⟩ v1 p hp).trans (Below.heap_setCell _ ⟨q, 0, none⟩ v0 p hp)))))⟩
theorem found_more (x : Ln) (n : Int) (w : World) (h1 : n < x.2.2) (hd : IntKind.i64.wrap (x.2.2 - n) = x.2.2 - n) :
  Calls Tryz.prog 33 #[agN x, .int .i64 n] w fun e w' => e = .returned (agE (moreEn x (x.2.2 - n))) ∧ Below w.heap.size w w' := by
 obtain ⟨U1, hU1⟩ : ∃ U1, w.alloc (.cells #[.string x.1.1, .int .i64 x.1.2.1, .int .i64 x.1.2.2, .string x.2.1, .int .i64 x.2.2] 48) = U1 := ⟨_, rfl⟩
 have l1 : LineAt U1 w.heap.size 0 x := hU1 ▸ LineAt.new w x _ _ rfl
 have b1 : Below w.heap.size w U1 := hU1 ▸ (Below.refl _ w).alloc (Nat.le_refl _) _
 have s1 : U1.heap.size = w.heap.size + 1 := by rw [← hU1]; simp
 obtain ⟨U2, hU2⟩ : ∃ U2, U1.alloc (celE zeroE) = U2 := ⟨_, rfl⟩
 have e2 : BlkE U2 U1.heap.size zeroE := hU2 ▸ BlkE.new U1 zeroE
 have b2 : Below U1.heap.size U1 U2 := hU2 ▸ (Below.refl _ U1).alloc (Nat.le_refl _) _
 have s2 : U2.heap.size = U1.heap.size + 1 := by rw [← hU2]; simp
 obtain ⟨e0, he0⟩ : ∃ e0 : En, e0 = (⟨#[]⟩, (⟨#[]⟩, 0), (x.2.1, ⟨#[]⟩, 0, 0), (⟨#[]⟩, 0, 0), (⟨#[]⟩, 0, 0), 0) := ⟨_, rfl⟩
 obtain ⟨U3, hU3⟩ : ∃ U3, U2.alloc (celE e0) = U3 := ⟨_, rfl⟩
 have e3 : BlkE U3 U2.heap.size e0 := hU3 ▸ BlkE.new U2 e0
 have b3 : Below U2.heap.size U2 U3 := hU3 ▸ (Below.refl _ U2).alloc (Nat.le_refl _) _
 have l2 : LineAt U2 w.heap.size 0 x := l1.of_block (b2.block _ l1.lt)
 have l3 : LineAt U3 w.heap.size 0 x := l2.of_block (b3.block _ l2.lt)
 have HE2 : Hid (BlkE U3 U1.heap.size zeroE) := e2.below b3
 have HB : Hid (Below w.heap.size w U3) := b1.trans ((b2.trans (b3.mono (by omega))).mono (by omega))
 have HE3 : Hid (BlkE U3 U2.heap.size e0) := e3
 have hne : w.heap.size ≠ U2.heap.size := by omega
 have hne' : U2.heap.size ≠ w.heap.size := fun e => hne e.symm
 have HN3 : Hid (w.heap.size ≤ U2.heap.size) := by show _ ≤ _; omega
 have HN2 : Hid (w.heap.size ≤ U1.heap.size) := by show _ ≤ _; omega
 have HN : Hid (U1.heap.size ≠ U2.heap.size) := by show _ ≠ _; omega
 obtain ⟨q0, q1, q2, q3, q4⟩ := l2
 obtain ⟨c0, c1, c2, c3, c4⟩ := l3
 obtain ⟨k0, k1, k2, k3, k4, k5, k6, k7, k8, k9, k10, k11, k12, k13⟩ := e3.at
 have fz := e3.frozen
 subst he0
 unfold celE zeroE zeroG zeroL zeroP at hU2
 unfold celE at hU3
 unfold BlkE at HE3
 simp only at hU2 hU3 k0 k1 k2 k3 k4 k5 k6 k7 k8 k9 k10 k11 k12 k13 HE3
 obtain ⟨⟨xz, xr, xb⟩, xl, xn⟩ := x
 simp only at *
 unfold agN agE moreEn kMore
 simp only
 have HU3 : Hid (_ = U3) := hU3
 clear b1 b2 b3 e2 e3 s1 s2 hU3 l1
 go_enter Tryz.func33, Tryz.ntmps33
 go_upto_region 2 with (fail)
 rw [HU3.out]
 clear q0 q1 q2 q3 q4 hU1 hU2 HU3
 go_wp2
 go_region
 clear c0 c1 c2 c3 c4 k0 k1 k2 k3 k4 k5 k6 k7 k8 k9 k10 k11 k12 k13 fz
 obtain ⟨WR, eW, t4, hbW, h2o⟩ := five_more HE3.out HB.out HN3.out HN.out (.string ⟨#[109, 111, 114, 101]⟩) (.string xz) (.int .i64 xr) (.int .i64 xb) (.int .i64 (xn - n))
 rw [eW]
 have h2W : BlkE WR U1.heap.size zeroE := h2o.trans HE2.out
 clear eW h2o
 have hbV : Below w.heap.size w WR.drew := hbW.drew
 have h3V : BlkE WR.drew U2.heap.size (⟨#[109, 111, 114, 101]⟩, (⟨#[]⟩, 0), (xl, ⟨#[]⟩, 0, 0), (⟨#[]⟩, 0, 0), (xz, xr, xb), xn - n) := t4
 have h2V : BlkE WR.drew U1.heap.size zeroE := h2W
 generalize WR.drew = V at *
 clear t4 hbW h2W
 obtain ⟨g0, g1, g2, g3, g4, g5, g6, g7, g8, g9, g10, g11, g12, g13⟩ := h3V.at
 obtain ⟨z0, z1, z2, z3, z4, z5, z6, z7, z8, z9, z10, z11, z12, z13⟩ := h2V.at
 have fz := h2V.frozen
 have HV2 : Hid (BlkE V U1.heap.size zeroE) := h2V
 have HBV : Hid (Below w.heap.size w V) := hbV
 unfold zeroE zeroG zeroL zeroP at z0 z1 z2 z3 z4 z5 z6 z7 z8 z9 z10 z11 z12 z13
 simp only at g0 g1 g2 g3 g4 g5 g6 g7 g8 g9 g10 g11 g12 g13 z0 z1 z2 z3 z4 z5 z6 z7 z8 z9 z10 z11 z12 z13
 clear h3V h2V hbV
 go_wp2
 have hFF : BlkE ((((((((((((((V.setCell ⟨U1.heap.size, 0, none⟩ (.string ⟨#[109, 111, 114, 101]⟩)).setCell ⟨U1.heap.size, 1, none⟩ (.string ⟨#[]⟩)).setCell ⟨U1.heap.size, 2, none⟩ (.int .i64 0)).setCell ⟨U1.heap.size, 3, none⟩ (.string xl)).setCell ⟨U1.heap.size, 4, none⟩ (.string ⟨#[]⟩)).setCell ⟨U1.heap.size, 5, none⟩ (.int .i64 0)).setCell ⟨U1.heap.size, 6, none⟩ (.int .i64 0)).setCell ⟨U1.heap.size, 7, none⟩ (.string ⟨#[]⟩)).setCell ⟨U1.heap.size, 8, none⟩ (.int .i64 0)).setCell ⟨U1.heap.size, 9, none⟩ (.int .i64 0)).setCell ⟨U1.heap.size, 10, none⟩ (.string xz)).setCell ⟨U1.heap.size, 11, none⟩ (.int .i64 xr)).setCell ⟨U1.heap.size, 12, none⟩ (.int .i64 xb)).setCell ⟨U1.heap.size, 13, none⟩ (.int .i64 (xn - n))) U1.heap.size (⟨#[109, 111, 114, 101]⟩, (⟨#[]⟩, 0), (xl, ⟨#[]⟩, 0, 0), (⟨#[]⟩, 0, 0), (xz, xr, xb), xn - n) := BlkE.setE HV2.out (⟨#[109, 111, 114, 101]⟩, (⟨#[]⟩, 0), (xl, ⟨#[]⟩, 0, 0), (⟨#[]⟩, 0, 0), (xz, xr, xb), xn - n)
 have hBF : Below w.heap.size w ((((((((((((((V.setCell ⟨U1.heap.size, 0, none⟩ (.string ⟨#[109, 111, 114, 101]⟩)).setCell ⟨U1.heap.size, 1, none⟩ (.string ⟨#[]⟩)).setCell ⟨U1.heap.size, 2, none⟩ (.int .i64 0)).setCell ⟨U1.heap.size, 3, none⟩ (.string xl)).setCell ⟨U1.heap.size, 4, none⟩ (.string ⟨#[]⟩)).setCell ⟨U1.heap.size, 5, none⟩ (.int .i64 0)).setCell ⟨U1.heap.size, 6, none⟩ (.int .i64 0)).setCell ⟨U1.heap.size, 7, none⟩ (.string ⟨#[]⟩)).setCell ⟨U1.heap.size, 8, none⟩ (.int .i64 0)).setCell ⟨U1.heap.size, 9, none⟩ (.int .i64 0)).setCell ⟨U1.heap.size, 10, none⟩ (.string xz)).setCell ⟨U1.heap.size, 11, none⟩ (.int .i64 xr)).setCell ⟨U1.heap.size, 12, none⟩ (.int .i64 xb)).setCell ⟨U1.heap.size, 13, none⟩ (.int .i64 (xn - n))) := below_setE HBV.out HN2.out (⟨#[109, 111, 114, 101]⟩, (⟨#[]⟩, 0), (xl, ⟨#[]⟩, 0, 0), (⟨#[]⟩, 0, 0), (xz, xr, xb), xn - n)
 generalize ((((((((((((((V.setCell ⟨U1.heap.size, 0, none⟩ (.string ⟨#[109, 111, 114, 101]⟩)).setCell ⟨U1.heap.size, 1, none⟩ (.string ⟨#[]⟩)).setCell ⟨U1.heap.size, 2, none⟩ (.int .i64 0)).setCell ⟨U1.heap.size, 3, none⟩ (.string xl)).setCell ⟨U1.heap.size, 4, none⟩ (.string ⟨#[]⟩)).setCell ⟨U1.heap.size, 5, none⟩ (.int .i64 0)).setCell ⟨U1.heap.size, 6, none⟩ (.int .i64 0)).setCell ⟨U1.heap.size, 7, none⟩ (.string ⟨#[]⟩)).setCell ⟨U1.heap.size, 8, none⟩ (.int .i64 0)).setCell ⟨U1.heap.size, 9, none⟩ (.int .i64 0)).setCell ⟨U1.heap.size, 10, none⟩ (.string xz)).setCell ⟨U1.heap.size, 11, none⟩ (.int .i64 xr)).setCell ⟨U1.heap.size, 12, none⟩ (.int .i64 xb)).setCell ⟨U1.heap.size, 13, none⟩ (.int .i64 (xn - n))) = WF at *
 obtain ⟨f0, f1, f2, f3, f4, f5, f6, f7, f8, f9, f10, f11, f12, f13⟩ := hFF.at
 simp only at f0 f1 f2 f3 f4 f5 f6 f7 f8 f9 f10 f11 f12 f13
 have hzF := hFF.lt
 exact bodyPost_ret (v := .agg #[.string ⟨#[109, 111, 114, 101]⟩, .string ⟨#[]⟩, .int .i64 0, .string xl, .string ⟨#[]⟩, .int .i64 0, .int .i64 0, .string ⟨#[]⟩, .int .i64 0, .int .i64 0, .string xz, .int .i64 xr, .int .i64 xb, .int .i64 (xn - n)]) (by simp [results, Tryz.results33, go_sem, f0, f1, f2, f3, f4, f5, f6, f7, f8, f9, f10, f11, f12, f13]) rfl ⟨rfl, hBF⟩
theorem found_less (x : Ln) (n : Int) (w : World) (h1 : x.2.2 < n) (hd : IntKind.i64.wrap (n - x.2.2) = n - x.2.2) :
  Calls Tryz.prog 33 #[agN x, .int .i64 n] w fun e w' => e = .returned (agE (lessEn x (n - x.2.2))) ∧ Below w.heap.size w w' := by
 obtain ⟨U1, hU1⟩ : ∃ U1, w.alloc (.cells #[.string x.1.1, .int .i64 x.1.2.1, .int .i64 x.1.2.2, .string x.2.1, .int .i64 x.2.2] 48) = U1 := ⟨_, rfl⟩
 have l1 : LineAt U1 w.heap.size 0 x := hU1 ▸ LineAt.new w x _ _ rfl
 have b1 : Below w.heap.size w U1 := hU1 ▸ (Below.refl _ w).alloc (Nat.le_refl _) _
 have s1 : U1.heap.size = w.heap.size + 1 := by rw [← hU1]; simp
 obtain ⟨U2, hU2⟩ : ∃ U2, U1.alloc (celE zeroE) = U2 := ⟨_, rfl⟩
 have e2 : BlkE U2 U1.heap.size zeroE := hU2 ▸ BlkE.new U1 zeroE
 have b2 : Below U1.heap.size U1 U2 := hU2 ▸ (Below.refl _ U1).alloc (Nat.le_refl _) _
 have s2 : U2.heap.size = U1.heap.size + 1 := by rw [← hU2]; simp
 obtain ⟨e0, he0⟩ : ∃ e0 : En, e0 = (⟨#[]⟩, (⟨#[]⟩, 0), (x.2.1, ⟨#[]⟩, 0, 0), (⟨#[]⟩, 0, 0), (⟨#[]⟩, 0, 0), 0) := ⟨_, rfl⟩
 obtain ⟨U3, hU3⟩ : ∃ U3, U2.alloc (celE e0) = U3 := ⟨_, rfl⟩
 have e3 : BlkE U3 U2.heap.size e0 := hU3 ▸ BlkE.new U2 e0
 have b3 : Below U2.heap.size U2 U3 := hU3 ▸ (Below.refl _ U2).alloc (Nat.le_refl _) _
 have l2 : LineAt U2 w.heap.size 0 x := l1.of_block (b2.block _ l1.lt)
 have l3 : LineAt U3 w.heap.size 0 x := l2.of_block (b3.block _ l2.lt)
 have HE2 : Hid (BlkE U3 U1.heap.size zeroE) := e2.below b3
 have HB : Hid (Below w.heap.size w U3) := b1.trans ((b2.trans (b3.mono (by omega))).mono (by omega))
 have HE3 : Hid (BlkE U3 U2.heap.size e0) := e3
 have hne : w.heap.size ≠ U2.heap.size := by omega
 have hne' : U2.heap.size ≠ w.heap.size := fun e => hne e.symm
 have HN3 : Hid (w.heap.size ≤ U2.heap.size) := by show _ ≤ _; omega
 have HN2 : Hid (w.heap.size ≤ U1.heap.size) := by show _ ≤ _; omega
 have HN : Hid (U1.heap.size ≠ U2.heap.size) := by show _ ≠ _; omega
 obtain ⟨q0, q1, q2, q3, q4⟩ := l2
 obtain ⟨c0, c1, c2, c3, c4⟩ := l3
 obtain ⟨k0, k1, k2, k3, k4, k5, k6, k7, k8, k9, k10, k11, k12, k13⟩ := e3.at
 have fz := e3.frozen
 subst he0
 unfold celE zeroE zeroG zeroL zeroP at hU2
 unfold celE at hU3
 unfold BlkE at HE3
 simp only at hU2 hU3 k0 k1 k2 k3 k4 k5 k6 k7 k8 k9 k10 k11 k12 k13 HE3
 obtain ⟨⟨xz, xr, xb⟩, xl, xn⟩ := x
 simp only at *
 unfold agN agE lessEn kLess
 simp only
 have HU3 : Hid (_ = U3) := hU3
 clear b1 b2 b3 e2 e3 s1 s2 hU3 l1
 go_enter Tryz.func33, Tryz.ntmps33
 go_upto_region 2 with (fail)
 rw [HU3.out]
 clear q0 q1 q2 q3 q4 hU1 hU2 HU3
 go_wp2
 go_region
 clear c0 c1 c2 c3 c4 k0 k1 k2 k3 k4 k5 k6 k7 k8 k9 k10 k11 k12 k13 fz
 obtain ⟨WR, eW, t4, hbW, h2o⟩ := five_less HE3.out HB.out HN3.out HN.out (.string ⟨#[108, 101, 115, 115]⟩) (.string xz) (.int .i64 xr) (.int .i64 xb) (.int .i64 (n - xn))
 rw [eW]
 have h2W : BlkE WR U1.heap.size zeroE := h2o.trans HE2.out
 clear eW h2o
 have hbV : Below w.heap.size w WR.drew := hbW.drew
 have h3V : BlkE WR.drew U2.heap.size (⟨#[108, 101, 115, 115]⟩, (⟨#[]⟩, 0), (xl, ⟨#[]⟩, 0, 0), (xz, xr, xb), (⟨#[]⟩, 0, 0), n - xn) := t4
 have h2V : BlkE WR.drew U1.heap.size zeroE := h2W
 generalize WR.drew = V at *
 clear t4 hbW h2W
 obtain ⟨g0, g1, g2, g3, g4, g5, g6, g7, g8, g9, g10, g11, g12, g13⟩ := h3V.at
 obtain ⟨z0, z1, z2, z3, z4, z5, z6, z7, z8, z9, z10, z11, z12, z13⟩ := h2V.at
 have fz := h2V.frozen
 have HV2 : Hid (BlkE V U1.heap.size zeroE) := h2V
 have HBV : Hid (Below w.heap.size w V) := hbV
 unfold zeroE zeroG zeroL zeroP at z0 z1 z2 z3 z4 z5 z6 z7 z8 z9 z10 z11 z12 z13
 simp only at g0 g1 g2 g3 g4 g5 g6 g7 g8 g9 g10 g11 g12 g13 z0 z1 z2 z3 z4 z5 z6 z7 z8 z9 z10 z11 z12 z13
 clear h3V h2V hbV
 go_wp2
 have hFF : BlkE ((((((((((((((V.setCell ⟨U1.heap.size, 0, none⟩ (.string ⟨#[108, 101, 115, 115]⟩)).setCell ⟨U1.heap.size, 1, none⟩ (.string ⟨#[]⟩)).setCell ⟨U1.heap.size, 2, none⟩ (.int .i64 0)).setCell ⟨U1.heap.size, 3, none⟩ (.string xl)).setCell ⟨U1.heap.size, 4, none⟩ (.string ⟨#[]⟩)).setCell ⟨U1.heap.size, 5, none⟩ (.int .i64 0)).setCell ⟨U1.heap.size, 6, none⟩ (.int .i64 0)).setCell ⟨U1.heap.size, 7, none⟩ (.string xz)).setCell ⟨U1.heap.size, 8, none⟩ (.int .i64 xr)).setCell ⟨U1.heap.size, 9, none⟩ (.int .i64 xb)).setCell ⟨U1.heap.size, 10, none⟩ (.string ⟨#[]⟩)).setCell ⟨U1.heap.size, 11, none⟩ (.int .i64 0)).setCell ⟨U1.heap.size, 12, none⟩ (.int .i64 0)).setCell ⟨U1.heap.size, 13, none⟩ (.int .i64 (n - xn))) U1.heap.size (⟨#[108, 101, 115, 115]⟩, (⟨#[]⟩, 0), (xl, ⟨#[]⟩, 0, 0), (xz, xr, xb), (⟨#[]⟩, 0, 0), n - xn) := BlkE.setE HV2.out (⟨#[108, 101, 115, 115]⟩, (⟨#[]⟩, 0), (xl, ⟨#[]⟩, 0, 0), (xz, xr, xb), (⟨#[]⟩, 0, 0), n - xn)
 have hBF : Below w.heap.size w ((((((((((((((V.setCell ⟨U1.heap.size, 0, none⟩ (.string ⟨#[108, 101, 115, 115]⟩)).setCell ⟨U1.heap.size, 1, none⟩ (.string ⟨#[]⟩)).setCell ⟨U1.heap.size, 2, none⟩ (.int .i64 0)).setCell ⟨U1.heap.size, 3, none⟩ (.string xl)).setCell ⟨U1.heap.size, 4, none⟩ (.string ⟨#[]⟩)).setCell ⟨U1.heap.size, 5, none⟩ (.int .i64 0)).setCell ⟨U1.heap.size, 6, none⟩ (.int .i64 0)).setCell ⟨U1.heap.size, 7, none⟩ (.string xz)).setCell ⟨U1.heap.size, 8, none⟩ (.int .i64 xr)).setCell ⟨U1.heap.size, 9, none⟩ (.int .i64 xb)).setCell ⟨U1.heap.size, 10, none⟩ (.string ⟨#[]⟩)).setCell ⟨U1.heap.size, 11, none⟩ (.int .i64 0)).setCell ⟨U1.heap.size, 12, none⟩ (.int .i64 0)).setCell ⟨U1.heap.size, 13, none⟩ (.int .i64 (n - xn))) := below_setE HBV.out HN2.out (⟨#[108, 101, 115, 115]⟩, (⟨#[]⟩, 0), (xl, ⟨#[]⟩, 0, 0), (xz, xr, xb), (⟨#[]⟩, 0, 0), n - xn)
 generalize ((((((((((((((V.setCell ⟨U1.heap.size, 0, none⟩ (.string ⟨#[108, 101, 115, 115]⟩)).setCell ⟨U1.heap.size, 1, none⟩ (.string ⟨#[]⟩)).setCell ⟨U1.heap.size, 2, none⟩ (.int .i64 0)).setCell ⟨U1.heap.size, 3, none⟩ (.string xl)).setCell ⟨U1.heap.size, 4, none⟩ (.string ⟨#[]⟩)).setCell ⟨U1.heap.size, 5, none⟩ (.int .i64 0)).setCell ⟨U1.heap.size, 6, none⟩ (.int .i64 0)).setCell ⟨U1.heap.size, 7, none⟩ (.string xz)).setCell ⟨U1.heap.size, 8, none⟩ (.int .i64 xr)).setCell ⟨U1.heap.size, 9, none⟩ (.int .i64 xb)).setCell ⟨U1.heap.size, 10, none⟩ (.string ⟨#[]⟩)).setCell ⟨U1.heap.size, 11, none⟩ (.int .i64 0)).setCell ⟨U1.heap.size, 12, none⟩ (.int .i64 0)).setCell ⟨U1.heap.size, 13, none⟩ (.int .i64 (n - xn))) = WF at *
 obtain ⟨f0, f1, f2, f3, f4, f5, f6, f7, f8, f9, f10, f11, f12, f13⟩ := hFF.at
 simp only at f0 f1 f2 f3 f4 f5 f6 f7 f8 f9 f10 f11 f12 f13
 have hzF := hFF.lt
 exact bodyPost_ret (v := .agg #[.string ⟨#[108, 101, 115, 115]⟩, .string ⟨#[]⟩, .int .i64 0, .string xl, .string ⟨#[]⟩, .int .i64 0, .int .i64 0, .string xz, .int .i64 xr, .int .i64 xb, .string ⟨#[]⟩, .int .i64 0, .int .i64 0, .int .i64 (n - xn)]) (by simp [results, Tryz.results33, go_sem, f0, f1, f2, f3, f4, f5, f6, f7, f8, f9, f10, f11, f12, f13]) rfl ⟨rfl, hBF⟩
end Go.Proofs.YtppodkkefegbkaaGreatDoor
namespace Go.Proofs.YtppodkkefegbkaaGreatDoor
open Go.Lib Go.Sort
abbrev Sh := Nat × Int
def cmpSh (x y : Sh) : Int := compareInt y.2 x.2
def shLt (x y : Sh) : Bool := decide (cmpSh x y < 0)
theorem shLt_eq (x y : Sh) : shLt x y = decide (y.2 < x.2) := by
 unfold shLt cmpSh compareInt
 by_cases h1 : y.2 < x.2
 ·simp [h1]
 ·by_cases h2 : x.2 < y.2 <;> simp [h1, h2]
def rkLt (x y : Sh) : Bool := decide (y.2 < x.2) || (decide (x.2 = y.2) && decide (x.1 < y.1))
theorem rkLt_iff (x y : Sh) : rkLt x y = true ↔ y.2 < x.2 ∨ (x.2 = y.2 ∧ x.1 < y.1) := by
 unfold rkLt
 simp only [Bool.or_eq_true, Bool.and_eq_true, decide_eq_true_eq]
theorem rkLt_no (x y : Sh) : rkLt x y = false ↔ ¬ (y.2 < x.2 ∨ (x.2 = y.2 ∧ x.1 < y.1)) := by
 rw [← rkLt_iff, Bool.not_eq_true]
theorem swoSh : SWO shLt where
 irrefl x := by rw [shLt_eq]; exact decide_eq_false (Int.lt_irrefl _)
 trans x y z h1 h2 := by
  rw [shLt_eq] at *
  have h1 := of_decide_eq_true h1
  have h2 := of_decide_eq_true h2
  exact decide_eq_true (Int.lt_trans h2 h1)
 ntrans x y z h1 h2 := by
  rw [shLt_eq] at *
  have h1 := of_decide_eq_false h1
  have h2 := of_decide_eq_false h2
  exact decide_eq_false (by omega)
theorem swoRk : SWO rkLt where
 irrefl x := by rw [rkLt_no]; omega
 trans x y z h1 h2 := by rw [rkLt_iff] at *; omega
 ntrans x y z h1 h2 := by rw [rkLt_no] at *; omega
structure ShOf (m : List Gs) (d : Array Sh) : Prop where
 size : d.size = m.length
 at_ : ∀ (i : Nat) (g : Gs), m[i]? = some g → d[i]! = (i, outG g)
theorem ShOf.get {m : List Gs} {d : Array Sh} (h : ShOf m d) {i : Nat} (hi : i < m.length) : ∃ g, m[i]? = some g ∧ d[i]! = (i, outG g) :=
 ⟨_, List.getElem?_eq_getElem hi, h.at_ i _ (List.getElem?_eq_getElem hi)⟩
structure RkOf (m : List Gs) (d' : Array Sh) : Prop where
 size : d'.size = m.length
 from_ : ∀ p, p < m.length → ∃ i g, m[i]? = some g ∧ d'[p]! = (i, outG g)
 all : ∀ i, i < m.length → ∃ p, p < m.length ∧ (d'[p]!).1 = i
 perm : ∃ d : Array Sh, ShOf m d ∧ ((List.range m.length).map (fun i => d'[i]!)).Perm ((List.range m.length).map (fun i => d[i]!))
 lt : ∀ p q, p < q → q < m.length → rkLt d'[p]! d'[q]! = true
theorem extract_all {α : Type} [Inhabited α] (d : Array α) {n : Nat} (hn : n ≤ d.size) : (d.extract 0 n).toList = (List.range n).map fun i => d[i]! := by
 rw [extract_toList d 0 n hn, Nat.sub_zero, List.range_eq_range']
theorem rkOf {m : List Gs} {d d' : Array Sh} (h : ShOf m d) (hs : StablyS shLt m.length d d') : RkOf m d' := by
 obtain ⟨hP, hT⟩ := hs
 have hR := hT rkLt swoRk fun p q h1 h2 => by
  obtain ⟨gp, hp, e1⟩ := h.get (Nat.lt_trans h1 h2)
  obtain ⟨gq, hq, e2⟩ := h.get h2
  rw [e1, e2, shLt_eq]
  unfold rkLt
  simp only
  rw [decide_eq_false (Nat.not_lt.2 (Nat.le_of_lt h1)), Bool.and_false, Bool.or_false]
 have hz : d'.size = m.length := by rw [hP.1, h.size]
 have hperm : ((List.range m.length).map (fun i => d'[i]!)).Perm ((List.range m.length).map (fun i => d[i]!)) := by
  have h3 := hP.2.2
  rw [extract_all d' (Nat.le_of_eq hz.symm), extract_all d (Nat.le_of_eq h.size.symm)] at h3
  exact h3
 have hne : ∀ p q, p < q → q < m.length → (d'[p]!).1 ≠ (d'[q]!).1 := by
  have hd : ((List.range m.length).map (fun i => d[i]!)).Pairwise (fun x y => x.1 ≠ y.1) := by
   rw [List.pairwise_map, List.pairwise_iff_getElem]
   intro i j hi hj hij
   rw [List.length_range] at hi hj
   rw [List.getElem_range, List.getElem_range]
   obtain ⟨_, _, e1⟩ := h.get hi
   obtain ⟨_, _, e2⟩ := h.get hj
   rw [e1, e2]
   exact Nat.ne_of_lt hij
  have hd' := (hperm.pairwise_iff (R := fun (x y : Sh) => x.1 ≠ y.1) (fun h e => h e.symm)).2 hd
  rw [List.pairwise_map, List.pairwise_iff_getElem] at hd'
  intro p q h1 h2
  have := hd' p q (by rw [List.length_range]; omega) (by rw [List.length_range]; omega) h1
  rw [List.getElem_range, List.getElem_range] at this
  exact this
 refine ⟨hz, fun p hp => ?_, fun i hi => ?_, ⟨d, h, hperm⟩, fun p q h1 h2 => ?_⟩
 ·exact permIn_all d d' 0 m.length (fun x => ∃ i g, m[i]? = some g ∧ x = (i, outG g)) (Nat.le_of_eq h.size.symm) hP (fun i _ hi => by
   obtain ⟨g, h1, h2⟩ := h.get hi
   exact ⟨i, g, h1, h2⟩) p (Nat.zero_le _) hp
 ·obtain ⟨g, _, e1⟩ := h.get hi
  have hm : d[i]! ∈ (List.range m.length).map (fun i => d[i]!) := List.mem_map.2 ⟨i, List.mem_range.2 hi, rfl⟩
  obtain ⟨p, hp, e2⟩ := List.mem_map.1 (hperm.symm.subset hm)
  exact ⟨p, List.mem_range.1 hp, by rw [e2, e1]⟩
 ·have h3 := hR p q (Nat.zero_le _) h1 h2
  rw [rkLt_no] at h3
  rw [rkLt_iff]
  have := hne p q h1 h2
  omega
theorem sumI_perm {l l' : List Int} (h : l.Perm l') : l.sum = l'.sum := by
 induction h with
 | nil => rfl
 | cons x _ ih => rw [List.sum_cons, List.sum_cons, ih]
 | swap x y l => rw [List.sum_cons, List.sum_cons, List.sum_cons, List.sum_cons]; omega
 | trans _ _ h1 h2 => rw [h1, h2]
def sumA (d : Array Sh) : Nat → Int
 | 0 => 0
 | k + 1 => sumA d k + (d[k]!).2
def selA (c : Sh → Bool) (d : Array Sh) : Nat → Int
 | 0 => 0
 | k + 1 => if c d[k]! then selA c d k + (d[k]!).2 else selA c d k
theorem selA_eq (c : Sh → Bool) (d : Array Sh) : ∀ k, selA c d k = ((((List.range k).map (fun i => d[i]!)).filter c).map (fun x => x.2)).sum
 | 0 => rfl
 | k + 1 => by
  rw [List.range_succ, List.map_append, List.filter_append, List.map_append, List.sum_append, ← selA_eq c d k]
  show (if c d[k]! then _ else _) = _
  cases h : c d[k]! with
  | true => simp [h]
  | false => simp [h]
theorem selA_perm (c : Sh → Bool) {d d' : Array Sh} {n : Nat} (h : ((List.range n).map (fun i => d'[i]!)).Perm ((List.range n).map (fun i => d[i]!))) : selA c d' n = selA c d n := by
 rw [selA_eq, selA_eq]
 exact sumI_perm ((h.filter c).map _)
theorem selA_front {m : List Gs} {d : Array Sh} (h : ShOf m d) (n : Int) (i : Nat) : ∀ k, k ≤ m.length → selA (fun x => rkLt x (i, n)) d k = frontG m n i k
 | 0, _ => rfl
 | k + 1, hk => by
  obtain ⟨g, hg, e⟩ := h.get (Nat.lt_of_succ_le hk)
  rw [frontG_succ hg, ← selA_front h n i k (Nat.le_of_succ_le hk)]
  show (if rkLt d[k]! (i, n) = true then _ + (d[k]!).2 else _) = _
  rw [e]
  have e9 : rkLt (k, outG g) (i, n) = rankG n i k g := rfl
  rw [e9]
theorem selA_ranked {m : List Gs} {d' : Array Sh} (h : RkOf m d') {p : Nat} (hp : p < m.length) : ∀ k, k ≤ m.length → selA (fun x => rkLt x d'[p]!) d' k = sumA d' (min k p)
 | 0, _ => by rw [Nat.zero_min]; rfl
 | k + 1, hk => by
  have ih := selA_ranked h hp k (Nat.le_of_succ_le hk)
  show (if rkLt d'[k]! d'[p]! = true then _ + _ else _) = _
  rw [ih]
  rcases Nat.lt_trichotomy k p with q | q | q
  ·rw [h.lt k p q hp, if_pos rfl, Nat.min_eq_left (Nat.le_of_lt q), Nat.min_eq_left (Nat.succ_le_of_lt q)]
   rfl
  ·subst q
   rw [swoRk.irrefl, if_neg Bool.false_ne_true, Nat.min_self, Nat.min_eq_right (Nat.le_succ _)]
  ·rw [swoRk.asymmA (h.lt p k q (Nat.lt_of_succ_le hk)), if_neg Bool.false_ne_true, Nat.min_eq_right (Nat.le_of_lt q), Nat.min_eq_right (by omega)]
theorem RkOf.front {m : List Gs} {d' : Array Sh} (h : RkOf m d') {p i : Nat} {g : Gs} (hp : p < m.length) (e : d'[p]! = (i, outG g)) : sumA d' p = frontG m (outG g) i m.length := by
 obtain ⟨d, hd, hperm⟩ := h.perm
 have h1 := selA_ranked h hp m.length (Nat.le_refl _)
 rw [Nat.min_eq_right (Nat.le_of_lt hp), e, selA_perm _ hperm, selA_front hd _ _ _ (Nat.le_refl _)] at h1
 exact h1.symm
theorem classG_all {all ahead : Int} (h : 0 ≤ ahead) (h0 : 0 ≤ all) : classG all ahead = if ahead * 100 < all * 80 then clA else if ahead * 100 < all * 95 then clB else clC := by
 unfold classG
 by_cases h1 : ahead * 100 < all * 80
 ·rw [if_pos h1, if_pos (by omega)]
 ·rw [if_neg h1, if_neg (by omega)]
  by_cases h2 : ahead * 100 < all * 95
  ·rw [if_pos h2, if_pos (by omega)]
  ·rw [if_neg h2, if_neg (by omega)]
end Go.Proofs.YtppodkkefegbkaaGreatDoor
namespace Go.Proofs.YtppodkkefegbkaaGreatDoor
open Go.Shelf Go.RowKit Go.Lib Go.Sort
def encSh (x : Sh) : List Value := [.int .i64 (x.1 : Int), .int .i64 x.2]
abbrev agSh (x : Sh) : Value := .agg #[.int .i64 (x.1 : Int), .int .i64 x.2]
theorem shcompare_any (x y : Sh) (w : World) : Calls Tryz.prog 48 #[agSh x, agSh y] w fun e w' => e = .returned (.int .i64 (cmpSh x y)) ∧ ∃ q os, w' = grow (w.drewN q) os := by
 obtain ⟨i, a⟩ := x
 obtain ⟨j, b⟩ := y
 unfold cmpSh agSh
 simp only
 have h1 := fun w => cmpI_any b a w
 generalize compareInt b a = c at *
 go_enter Tryz.func48, Tryz.ntmps48
 go_wp2_with (go_at_call 49; refine (h1 _).mono ?_; rintro e w1 ⟨rfl, hw⟩; have hw' := hw.symm; subst hw')
 go_ret
 exact ⟨rfl, 0, #[.cells #[.int .i64 (i : Int), .int .i64 a] 114, .cells #[.int .i64 (j : Int), .int .i64 b] 114], by rw [alloc_eq_grow, alloc_eq_grow]; rfl⟩
theorem encSh_len (x : Sh) : (encSh x).length = 2 := rfl
theorem encSh_one (x : Sh) : ∀ v ∈ encSh x, v.oneCell' = true := by
 intro v hv; simp [encSh] at hv; rcases hv with rfl | rfl <;> rfl
theorem cmpLaysSh (blk off size : Nat) (w : World) : CmpLays Tryz.prog 48 #[] encSh 2 cmpSh blk off size w := fun _ _ _ _ x y => shcompare_any x y _
theorem stSh : StC Tryz.prog 2 where
 mixed := by kernel_rfl
 fS := Tryz.func134
 fR := Tryz.func122
 fM := Tryz.func110
 t0 := Tryz.underlying0
 a0 := Tryz.isAgg0
 z0 := Tryz.sizeOf0
 v0 := Tryz.zeroValue0
 t3 := Tryz.underlying3
 a3 := Tryz.isAgg3
 z3 := Tryz.sizeOf3
 v3 := Tryz.zeroValue3
 t4 := Tryz.underlying4
 a4 := Tryz.isAgg4
 z4 := Tryz.sizeOf4
 v4 := Tryz.zeroValue4
 tU := Tryz.underlying106
 aU := Tryz.isAgg106
 zU := Tryz.sizeOf106
 vU := Tryz.zeroValue106
 tL := Tryz.underlying109
 aL := Tryz.isAgg109
 zL := Tryz.sizeOf109
 vL := Tryz.zeroValue109
 tF := Tryz.underlying116
 aF := Tryz.isAgg116
 zF := Tryz.sizeOf116
 vF := Tryz.zeroValue116
 aE := Tryz.isAgg114
 zE := Tryz.sizeOf114
theorem insSh (blk off cap : Nat) (d0 : Array Sh) (w0 : World) (R : RowK encSh 2 w0 blk off d0) (hsz : d0.size < 1000) (a b : Nat) (d : Array Sh) (w : World) (hab : a ≤ b) (hb : b ≤ d0.size) (hZ : SZC encSh 2 w0 blk off d0.size d w) :
  Calls Tryz.prog 109 #[.slice (some ⟨blk, off, none⟩) d0.size cap, .int .i64 a, .int .i64 b, .func (.func 48) #[] #[]] w fun e w' => e = .returned (.tuple #[]) ∧ SZC encSh 2 w0 blk off d0.size (insertionSort shLt d a b) w' := by
 have eg : ∀ args w, (callFunc 48 args).run Tryz.prog w = .ok (.enter 48 args) w := enters_of Tryz.func48 (by kernel_rfl) rfl
 have hs := hZ.1
 have h := AnyQ.insertionSortCmpFunc Tryz.laysInsSh 2 Tryz.isAgg114 Tryz.sizeOf114 encSh encSh_len encSh_one cmpSh 48 #[] blk off cap a b d w eg (cmpLaysSh blk off d.size w) (hZ.2.holds R.hblk R.hH hs) (hZ.2.lt R.hblk) hab (by omega) (by omega)
 rw [hs] at h
 refine h.mono fun e w' ⟨he, n, os, hw⟩ => ⟨he, ?_⟩
 have hp : (insertionSort shLt d a b).size = d.size := (insertionSort_holds swoSh d a b hab (by omega)).1.1
 refine ⟨by rw [hp]; exact hs, ?_⟩
 rw [hw]
 exact hZ.2.on R.hblk n _ os hp
theorem symSh (blk off cap : Nat) (d0 : Array Sh) (w0 : World) (R : RowK encSh 2 w0 blk off d0) (hsz : d0.size < 1000) (a m b : Nat) (d : Array Sh) (w : World) (ham : a < m) (hmb : m < b) (hb : b ≤ d0.size) (hZ : SZC encSh 2 w0 blk off d0.size d w) :
  Calls Tryz.prog 110 #[.slice (some ⟨blk, off, none⟩) d0.size cap, .int .i64 a, .int .i64 m, .int .i64 b, .func (.func 48) #[] #[]] w fun e w' => e = .returned (.tuple #[]) ∧ ∃ d', MergedS shLt a m b d d' ∧ SZC encSh 2 w0 blk off d0.size d' w' := by
 have eg : ∀ args w, (callFunc 48 args).run Tryz.prog w = .ok (.enter 48 args) w := enters_of Tryz.func48 (by kernel_rfl) rfl
 exact sym_anyC stSh encSh cmpSh 48 #[] swoSh blk off cap d0 w0 eg (cmpLaysSh blk off d0.size w0) R (by omega) (b - a + 1) a m b d w (by omega) ham hmb hb hZ
theorem stable_fewC (blk off cap : Nat) (d : Array Sh) (w : World) (R : RowK encSh 2 w blk off d) (hn : d.size < 20) :
  Calls Tryz.prog 80 #[.slice (some ⟨blk, off, none⟩) d.size cap, .int .i64 d.size, .func (.func 48) #[] #[]] w fun e w' => e = .returned (.tuple #[]) ∧ ∃ d', StablyS shLt d.size d d' ∧ SZC encSh 2 w blk off d.size d' w' := by
 have h0 : Calls Tryz.prog 109 #[.slice (some ⟨blk, off, none⟩) d.size cap, .int .i64 0, .int .i64 d.size, .func (.func 48) #[] #[]] w _ := insSh blk off cap d w R (by omega) 0 d.size d w (Nat.zero_le _) (Nat.le_refl _) ⟨rfl, SWK.start R.hH⟩
 have HS : Hid (StablyS shLt d.size d (insertionSort shLt d 0 d.size)) := stablyS_one swoSh (Nat.le_refl _)
 have H0 : Hid (Calls Tryz.prog _ _ _ _) := h0
 clear h0 R
 generalize insertionSort shLt d 0 d.size = d1 at *
 generalize d.size = n at *
 go_enter Tryz.func80, Tryz.ntmps80
 go_wp2
 refine wp_loop_rounds 1 ?_
 rw [rounds_succ]
 go_wp2_with (go_at_call 109; refine H0.out.mono ?_; rintro e w1 ⟨rfl, Z1⟩)
 refine wp_loop_rounds 1 ?_
 rw [rounds_succ]
 go_wp2
 go_end0
 exact ⟨rfl, d1, HS.out, Z1⟩
theorem stable_twentyC (blk off cap : Nat) (d : Array Sh) (w : World) (R : RowK encSh 2 w blk off d) (hn : d.size = 20) :
  Calls Tryz.prog 80 #[.slice (some ⟨blk, off, none⟩) 20 cap, .int .i64 20, .func (.func 48) #[] #[]] w fun e w' => e = .returned (.tuple #[]) ∧ ∃ d', StablyS shLt 20 d d' ∧ SZC encSh 2 w blk off 20 d' w' := by
 have i1 := fun a b d1 w1 h1 h2 => insSh blk off cap d w R (by omega) a b d1 w1 h1 h2
 rw [hn] at i1
 have h0 : Calls Tryz.prog 109 #[.slice (some ⟨blk, off, none⟩) 20 cap, .int .i64 0, .int .i64 20, .func (.func 48) #[] #[]] w _ := i1 0 20 d w (by decide) (by decide) ⟨hn, SWK.start R.hH⟩
 have h1 : ∀ d1 w1, SZC encSh 2 w blk off 20 d1 w1 → Calls Tryz.prog 109 #[.slice (some ⟨blk, off, none⟩) 20 cap, .int .i64 20, .int .i64 20, .func (.func 48) #[] #[]] w1 _ := fun d1 w1 h => i1 20 20 d1 w1 (by decide) (by decide) h
 have HS : Hid (StablyS shLt 20 d (insertionSort shLt d 0 20)) := stablyS_one swoSh (by omega)
 have H0 : Hid (Calls Tryz.prog _ _ _ _) := h0
 have H1 : Aside _ := h1
 clear h0 h1 i1 R
 generalize insertionSort shLt d 0 20 = d1 at *
 go_enter Tryz.func80, Tryz.ntmps80
 go_wp2
 refine wp_loop_rounds 2 ?_
 rw [rounds_succ]
 go_wp2_with (go_at_call_of 109 (Value.int .i64 0); refine H0.out.mono ?_; rintro e w1 ⟨rfl, Z1⟩)
 rw [rounds_succ]
 go_wp2_with (go_at_call 109; refine (H1.out _ _ Z1).mono ?_; rintro e w2 ⟨rfl, Z2⟩)
 refine wp_loop_rounds 1 ?_
 rw [rounds_succ]
 go_wp2
 go_end0
 rw [insS_none] at Z2
 exact ⟨rfl, d1, HS.out, Z2⟩
theorem stable_moreC (blk off cap : Nat) (d : Array Sh) (w : World) (R : RowK encSh 2 w blk off d) (hn : 20 < d.size) (hn' : d.size < 40) :
  Calls Tryz.prog 80 #[.slice (some ⟨blk, off, none⟩) d.size cap, .int .i64 d.size, .func (.func 48) #[] #[]] w fun e w' => e = .returned (.tuple #[]) ∧ ∃ d', StablyS shLt d.size d d' ∧ SZC encSh 2 w blk off d.size d' w' := by
 have h0 : Calls Tryz.prog 109 #[.slice (some ⟨blk, off, none⟩) d.size cap, .int .i64 0, .int .i64 20, .func (.func 48) #[] #[]] w _ := insSh blk off cap d w R (by omega) 0 20 d w (by decide) (by omega) ⟨rfl, SWK.start R.hH⟩
 have h1 : ∀ d1 w1, SZC encSh 2 w blk off d.size d1 w1 → Calls Tryz.prog 109 #[.slice (some ⟨blk, off, none⟩) d.size cap, .int .i64 20, .int .i64 d.size, .func (.func 48) #[] #[]] w1 _ := fun d1 w1 h => insSh blk off cap d w R (by omega) 20 d.size d1 w1 (by omega) (Nat.le_refl _) h
 have h2 : ∀ d1 w1, SZC encSh 2 w blk off d.size d1 w1 → Calls Tryz.prog 110 #[.slice (some ⟨blk, off, none⟩) d.size cap, .int .i64 0, .int .i64 20, .int .i64 d.size, .func (.func 48) #[] #[]] w1 _ := fun d1 w1 h => symSh blk off cap d w R (by omega) 0 20 d.size d1 w1 (by decide) hn (Nat.le_refl _) h
 have HS : Hid (∀ d', MergedS shLt 0 20 d.size (insertionSort shLt (insertionSort shLt d 0 20) 20 d.size) d' → StablyS shLt d.size d d') := fun d' h => stablyS_two swoSh (by omega) (Nat.le_refl _) h
 have H0 : Hid (Calls Tryz.prog _ _ _ _) := h0
 have H1 : Aside _ := h1
 have H2 : Aside _ := h2
 clear h0 h1 h2 R
 generalize insertionSort shLt d 0 20 = d1 at *
 generalize d.size = n at *
 go_enter Tryz.func80, Tryz.ntmps80
 go_wp2
 refine wp_loop_rounds 2 ?_
 rw [rounds_succ]
 go_wp2_with (go_at_call_of 109 (Value.int .i64 0); refine H0.out.mono ?_; rintro e w1 ⟨rfl, Z1⟩)
 rw [rounds_succ]
 go_wp2_with (go_at_call 109; refine (H1.out _ _ Z1).mono ?_; rintro e w2 ⟨rfl, Z2⟩)
 refine wp_loop_rounds 2 ?_
 rw [rounds_succ]
 go_wp2
 refine wp_loop_rounds 1 ?_
 rw [rounds_succ]
 go_wp2_with (go_at_call 110; refine (H2.out _ _ Z2).mono ?_; rintro e w3 ⟨rfl, d3, hm3, Z3⟩)
 rw [rounds_succ]
 go_wp2
 go_end0
 exact ⟨rfl, d3, HS.out d3 hm3, Z3⟩
theorem sortStable_anyC (blk off cap : Nat) (d : Array Sh) (w : World) (hH : HoldsK encSh 2 w blk off d) (hblk : blk < w.heap.size) (hn : d.size < 40) :
  Calls Tryz.prog 47 #[.slice (some ⟨blk, off, none⟩) d.size cap, .func (.func 48) #[] #[]] w fun e w' => e = .returned (.tuple #[]) ∧ ∃ d', StablyS shLt d.size d d' ∧ SZC encSh 2 w blk off d.size d' w' := by
 have R : RowK encSh 2 w blk off d := ⟨encSh_len, encSh_one, hH, hblk⟩
 have hs : Calls Tryz.prog 80 #[.slice (some ⟨blk, off, none⟩) d.size cap, .int .i64 d.size, .func (.func 48) #[] #[]] w fun e w' => e = .returned (.tuple #[]) ∧ ∃ d', StablyS shLt d.size d d' ∧ SZC encSh 2 w blk off d.size d' w' := by
  rcases Nat.lt_trichotomy d.size 20 with h | h | h
  ·exact stable_fewC blk off cap d w R h
  ·have := stable_twentyC blk off cap d w R h
   rw [h]; exact this
  ·exact stable_moreC blk off cap d w R h (by omega)
 have HS : Hid (Calls Tryz.prog _ _ _ _) := hs
 clear hs R hH hblk
 go_enter Tryz.func47, Tryz.ntmps47
 go_wp2_with (go_at_call 80; refine HS.out.mono ?_; rintro e w1 ⟨rfl, d1, h1, Z1⟩)
 go_end0
 exact ⟨rfl, d1, h1, Z1⟩
end Go.Proofs.YtppodkkefegbkaaGreatDoor
