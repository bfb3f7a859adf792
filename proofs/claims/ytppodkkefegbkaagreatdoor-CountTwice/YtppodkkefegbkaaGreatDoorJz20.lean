/-
 What package count answers, as the laws of chapter 9 ask it: the forms of its answers, and what is laid of them.
-/
import Derived.Test.YtppodkkefegbkaaGreatDoorJz15
import Derived.Test.YtppodkkefegbkaaGreatDoorJz2
import Derived.Test.YtppodkkefegbkaaGreatDoorJz17
import Derived.Test.YtppodkkefegbkaaGreatDoorJz14
import Derived.Test.YtppodkkefegbkaaGreatDoorJz13
import Derived.ProofKit
import Derived.OpenShut
import Derived.Stop.Joined
import Derived.Lib.SmallJoins
import Derived.Deep.Slices
import Derived.Laws.Bits64
import Derived.Test.YtppodkkefegbkaaGreatDoorJz5
import Derived.BigQuiet
import Derived.Lib.QuietBelow
import Derived.Test.YtppodkkefegbkaaGreatDoorJz19
import Derived.Deep.RegionHeld3
import Derived.Deep.AppendLies
set_option maxRecDepth 100000
set_option maxHeartbeats 16000000
namespace Go.Proofs.YtppodkkefegbkaaGreatDoor
open Go.RowKit Go.Lib Go.Sort
def FaultV (w : World) (s : Nat → Addr) (k c : Nat) (v : Value) : Prop := ∃ a, v = .iface 83 (.pointer (some ⟨a, 0, none⟩)) ∧ w.cell? ⟨a, 0, none⟩ = some (.int .i64 k) ∧ w.cell? ⟨a, 1, none⟩ = some (err (s (c - 1)))
def ChkR (s : Nat → Addr) (l : List Ln) (w' : World) (e : Ending) : Prop :=
 ((∀ j, j < l.length → sheetE l j = 0) ∧ e = .returned .nilIface) ∨ ∃ k, k < l.length ∧ (∀ j, j < k → sheetE l j = 0) ∧ sheetE l k ≠ 0 ∧ ∃ v, e = .returned v ∧ FaultV w' s k (sheetE l k) v
def DifR (w : World) (s : Nat → Addr) (b : Bk) (l : List Ln) (w' : World) (e : Ending) : Prop :=
 (∃ k, k < l.length ∧ (∀ j, j < k → sheetE l j = 0) ∧ sheetE l k ≠ 0 ∧ ∃ p c v, e = .returned (.tuple #[.slice p 0 c, v]) ∧ FaultV w' s k (sheetE l k) v) ∨
 ((∀ j, j < l.length → sheetE l j = 0) ∧ ∃ k, k < l.length ∧ (∀ j, j < k → noneS b l j = 0) ∧ noneS b l k ≠ 0 ∧ ∃ p c v, e = .returned (.tuple #[.slice p 0 c, v]) ∧ FaultV w' s k 6 v) ∨
 ((∀ j, j < l.length → sheetE l j = 0) ∧ (∀ j, j < l.length → noneS b l j = 0) ∧ ∃ p c, e = .returned (.tuple #[.slice p (diffL b.2.2 l).length c, .nilIface]) ∧ (diffL b.2.2 l = [] ∨ ∃ bq off, p = some ⟨bq, off, none⟩ ∧ w.heap.size ≤ bq ∧ Ents w' bq off (diffL b.2.2 l)))
def In64 (n : Int) : Prop := -9223372036854775808 ≤ n ∧ n ≤ 9223372036854775807
structure CountK (s : Nat → Addr) : Prop where
 check : ∀ (W : World) (pp : Option Addr) (l : List Ln) (cap : Nat), Sent W s → ShIn W pp l → l.length ≤ cap → l.length ≤ 30 → (∀ x ∈ l, SzL x) → Calls Tryz.prog 15 #[.slice pp l.length cap] W fun e w' => ChkR s l w' e ∧ Below W.heap.size W w'
 due : ∀ (W : World) (c : ByteArray) (last day : Int), In64 last → In64 day → Calls Tryz.prog 17 #[.string c, .int .i64 last, .int .i64 day] W fun e w' => e = .returned (.bool (dueC c last day)) ∧ Below W.heap.size W w'
structure CountD (s : Nat → Addr) : Prop where
 diff : ∀ (W : World) (B : Nat) (x : Bl) (b : Bk) (pp : Option Addr) (l : List Ln) (cap : Nat), Sent W s → IsBk W B x b → ShIn W pp l → l.length ≤ cap → l.length ≤ 30 → (∀ x ∈ l, SzL x) → Calls Tryz.prog 10 #[.pointer (some ⟨x.p, 0, none⟩), .slice pp l.length cap] W fun e w' => DifR W s b l w' e ∧ Below W.heap.size W w'
theorem own_sheet : sheetE [((⟨#[97]⟩, 1, 1), ⟨#[108, 49]⟩, 5)] 0 = 0 := by decide
theorem due_own : dueC clA 0 30 = true ∧ dueC clA 0 29 = false := by decide
theorem place_sheet {x : Ln} (h : ownS x = 0) : placeErr x.1 = 0 := by
 by_cases h0 : placeErr x.1 = 0
 ·exact h0
 ·unfold ownS at h
  rw [if_neg h0] at h
  exact absurd h h0
theorem own_line {l : List Ln} {i : Nat} {x : Ln} (h : sheetE l i = 0) (hx : l[i]? = some x) : ownS x = 0 := by
 rw [sheetE_eq hx] at h
 by_cases h0 : ownS x = 0
 ·exact h0
 ·rw [if_neg h0] at h; exact absurd h h0
theorem szE_more {x : Ln} (h : SzL x) (n : Int) : SzE (moreEn x n) := ⟨(by show (3 + 1 : Nat) ≤ maxLen; unfold maxLen; decide), (by show (0 : Nat) ≤ _; exact Nat.zero_le _), h.2, Nat.zero_le _, Nat.zero_le _, h.1⟩
theorem szE_less {x : Ln} (h : SzL x) (n : Int) : SzE (lessEn x n) := ⟨(by show (3 + 1 : Nat) ≤ maxLen; unfold maxLen; decide), (by show (0 : Nat) ≤ _; exact Nat.zero_le _), h.2, Nat.zero_le _, h.1, Nat.zero_le _⟩
theorem diffL_mem {m l : List Ln} {e : En} (h : e ∈ diffL m l) : ∃ x ∈ l, ∃ n, (e = moreEn x n ∨ e = lessEn x n) := by
 unfold diffL at h
 obtain ⟨x, hx, he⟩ := List.mem_flatMap.1 h
 unfold diffOne at he
 split at he
 ·exact ⟨x, hx, _, Or.inl (List.mem_singleton.1 he)⟩
 ·split at he
  ·exact ⟨x, hx, _, Or.inr (List.mem_singleton.1 he)⟩
  ·cases he
theorem CountD.diffE {s : Nat → Addr} (C : CountD s) {W : World} {B : Nat} {x : Bl} {b : Bk} {pp : Option Addr} {l : List Ln} {cap : Nat} (hs : Sent W s) (hI : IsBk W B x b) (hq : ShIn W pp l) (hc : l.length ≤ cap) (h30 : l.length ≤ 30) (hz : ∀ x ∈ l, SzL x) (hbad : ¬ ((∀ j, j < l.length → sheetE l j = 0) ∧ ∀ j, j < l.length → noneS b l j = 0)) :
  Calls Tryz.prog 10 #[.pointer (some ⟨x.p, 0, none⟩), .slice pp l.length cap] W fun e w' => (∃ p c a, e = .returned (.tuple #[.slice p 0 c, .iface 83 (.pointer (some ⟨a, 0, none⟩))])) ∧ Below W.heap.size W w' :=
 (C.diff W B x b pp l cap hs hI hq hc h30 hz).mono fun e w' ⟨h1, h2⟩ => by
  rcases h1 with ⟨k, _, _, _, p, c, v, h3, a, rfl, _⟩ | ⟨_, k, _, _, _, p, c, v, h3, a, rfl, _⟩ | ⟨h3, h4, _⟩
  ·exact ⟨⟨p, c, a, h3⟩, h2⟩
  ·exact ⟨⟨p, c, a, h3⟩, h2⟩
  ·exact absurd ⟨h3, h4⟩ hbad
theorem CountD.diffF {s : Nat → Addr} (C : CountD s) {W : World} {B : Nat} {x : Bl} {b : Bk} {pp : Option Addr} {l : List Ln} {cap : Nat} (hs : Sent W s) (hI : IsBk W B x b) (hq : ShIn W pp l) (hc : l.length ≤ cap) (h30 : l.length ≤ 30) (hz : ∀ x ∈ l, SzL x) (h1 : ∀ j, j < l.length → sheetE l j = 0) (h2 : ∀ j, j < l.length → noneS b l j = 0) :
  Calls Tryz.prog 10 #[.pointer (some ⟨x.p, 0, none⟩), .slice pp l.length cap] W fun e w' => (∃ p c, e = .returned (.tuple #[.slice p (diffL b.2.2 l).length c, .nilIface]) ∧ (diffL b.2.2 l = [] ∨ ∃ bq off, p = some ⟨bq, off, none⟩ ∧ W.heap.size ≤ bq ∧ Ents w' bq off (diffL b.2.2 l))) ∧ Below W.heap.size W w' :=
 (C.diff W B x b pp l cap hs hI hq hc h30 hz).mono fun e w' ⟨h, h9⟩ => by
  rcases h with ⟨k, hk, _, hne, _⟩ | ⟨_, k, hk, _, hne, _⟩ | ⟨_, _, h3⟩
  ·exact absurd (h1 k hk) hne
  ·exact absurd (h2 k hk) hne
  ·exact ⟨h3, h9⟩
theorem szE_diff {m l : List Ln} (hz : ∀ x ∈ l, SzL x) : ∀ e ∈ diffL m l, SzE e := fun e he => by
 obtain ⟨x, hx, n, rfl | rfl⟩ := diffL_mem he
 ·exact szE_more (hz x hx) n
 ·exact szE_less (hz x hx) n
end Go.Proofs.YtppodkkefegbkaaGreatDoor
namespace Go.Proofs.YtppodkkefegbkaaGreatDoor
open Go.Joins Go.Deep
open Go.Sort Go.Lib
open Go.ChangeMaps (open_string shut_string)
open Go.ChangeShapes Go.WideShapes Go.ChangeAt Go.WideMaps Go.WideElems Go.RowKit
theorem Tryz.cLin : Tryz.prog.cellsOf 48 = 5 := by kernel_rfl
theorem open_line_cells {H : Type} {enc : TypeId × Value → H} {W : World} {base n : Nat} {cs : List Value} {x : DataW H × List MemPlace} {sp : Nat → Bool} {hd : Bool} (hl : cs.length = 5) (h : DataW.trod enc Tryz.prog W base sp hd n 48 cs = some x) :
  ∃ e : Ln, cs = encN e ∧ SzL e := by
 match cs, hl with
 | [c0, c1, c2, c3, c4], _ =>
  obtain ⟨xs, m, _, _, _, hlen, hg⟩ := DataW.trod_struct Tryz.underlying48 h
  match xs, hlen with
  | [y0, y1, y2], _ =>
   have h0 := hg 0 _ rfl
   have h1 := hg 1 _ rfl
   have h2 := hg 2 _ rfl
   simp [Tryz.cStr, Tryz.cInt, Tryz.cPla] at h0 h1 h2
   obtain ⟨f, f0, f1, f2, wf⟩ := open_pl h0
   obtain ⟨k, e0, _, wk⟩ := DataW.trod_string Tryz.underlying9 h1
   obtain ⟨z, e5, _, wn⟩ := DataW.trod_int Tryz.underlying3 h2
   simp at e0 e5
   subst e0 e5 f0 f1 f2
   exact ⟨(f, k, z), rfl, ⟨wf, wk⟩⟩
theorem open_lines {H : Type} {enc : TypeId × Value → H} {W : World} {b0 : Nat} {v : Value} {dd : DataW H} {ps : List MemPlace} {sp : Nat → Bool} {hd : Bool} (hv : Value.okWide Tryz.prog W .any b0 23 v) (h : DataW.Trod enc Tryz.prog W 0 sp hd 23 v dd ps) :
  (∃ ad c, v = .slice ad 0 c) ∨ ∃ b off c l, 1 ≤ l.length ∧ l.length ≤ maxLen ∧ l.length ≤ c ∧ v = .slice (some ⟨b, off, none⟩) l.length c ∧ Lns W b off l ∧ ∀ e ∈ l, SzL e := by
 obtain ⟨a0, len, cap, rfl⟩ := okWide_slice Tryz.underlying23 hv
 obtain ⟨fuel, hf⟩ := h
 rcases open_slice Tryz.underlying23 hf with ⟨hcs, _⟩ | ⟨a, len', cap', m, n, D, Pq, hcs, _, hl, hm, hmm, _, hx⟩
 ·simp [Value.cells] at hcs
  obtain ⟨rfl, rfl, rfl⟩ := hcs
  exact Or.inl ⟨none, 0, rfl⟩
 ·simp [Value.cells] at hcs
  obtain ⟨rfl, rfl, rfl⟩ := hcs
  rcases Nat.eq_zero_or_pos len with rfl | hpos
  ·exact Or.inl ⟨_, _, rfl⟩
  ·right
   rw [Tryz.cLin] at hx
   have hlm : len ≤ m := by rw [hmm]; split <;> omega
   obtain ⟨f, hfq⟩ := choose_lt (α := Ln) (n := len) (p := fun i e => W.cells? 0 (a.add (i * 5)) 5 = some (encN e) ∧ SzL e) (fun i hi => by
    obtain ⟨cs', h1, h2⟩ := hx i (by omega)
    obtain ⟨_, hlen, _⟩ := World.cells?_some h1
    obtain ⟨e, rfl, hz⟩ := open_line_cells hlen h2
    exact ⟨e, h1, hz⟩)
   have hcell : ∀ i c, i < len → c < 5 → W.cell? (a.add (i * 5 + c)) = (encN (f i))[c]? := by
    intro i c hi hc
    have := (World.cells?_some (hfq i hi).1).2.2 c hc
    rw [add_add] at this
    exact this
   have hsp : a.spot = none := by
    have := World.cell?_spot (hcell 0 0 hpos (by decide))
    simpa [Addr.add] using this
   obtain ⟨b, off, spot⟩ := a
   simp only at hsp
   subst hsp
   have hsz : ((List.range len).map f).length = len := by simp
   have hget : ∀ i e, ((List.range len).map f)[i]? = some e → i < len ∧ e = f i := fun i e he => by
    have hi := (List.getElem?_eq_some_iff.1 he).1
    rw [hsz] at hi
    refine ⟨hi, ?_⟩
    rw [List.getElem?_map, List.getElem?_range hi] at he
    simpa using he.symm
   refine ⟨b, off, cap, (List.range len).map f, by rw [hsz]; exact hpos, by rw [hsz]; omega, by rw [hsz]; exact hl, by rw [hsz], ⟨?_, ?_⟩, ?_⟩
   ·have := hcell 0 0 hpos (by decide)
    rw [WideShapes.add_plain] at this
    exact cell_lt (this.trans rfl)
   ·intro k e he
    obtain ⟨hk, rfl⟩ := hget k e he
    have hc : ∀ c, c < 5 → W.cell? ⟨b, off + k * 5 + c, none⟩ = (encN (f k))[c]? := fun c hc => by
     have := hcell k c hk hc
     rw [WideShapes.add_plain, ← Nat.add_assoc] at this
     exact this
    exact ⟨hc 0 (by decide), hc 1 (by decide), hc 2 (by decide), hc 3 (by decide), hc 4 (by decide)⟩
   ·intro e he
    obtain ⟨k, hk⟩ := List.getElem?_of_mem he
    obtain ⟨hk', rfl⟩ := hget k e hk
    exact (hfq k hk').2
end Go.Proofs.YtppodkkefegbkaaGreatDoor
namespace Go.Proofs.YtppodkkefegbkaaGreatDoor
open Go.RowKit Go.Lib Go.Sort
theorem due_far {c : ByteArray} {last day days : Int} (hl : In64 last) (hd : In64 day) (h1 : daysC c = days) (h0 : 0 < days) (h9 : days ≤ 1000) : dueC c last day = (decide (last ≤ day) && decide (days ≤ day - last)) := by
 unfold In64 at hl hd
 rw [dueC_of h1 (Int.le_of_lt h0) rfl]
 by_cases h : day < last
 ·rw [if_pos h, decide_eq_false (by omega), Bool.false_and]
 ·rw [if_neg h, decide_eq_true (by omega : last ≤ day), Bool.true_and, IntKind.wrap_i64]
  by_cases h2 : days ≤ day - last
  ·rw [decide_eq_true h2, decide_eq_true (by omega), decide_eq_true (by omega)]; rfl
  ·rw [decide_eq_false h2]
   by_cases h3 : last ≤ (day - days + 9223372036854775808) % 18446744073709551616 - 9223372036854775808
   ·rw [decide_eq_true h3, decide_eq_false (by omega)]; rfl
   ·rw [decide_eq_false h3]; rfl
def dU (c : ByteArray) : Int := if daysC c < 0 then 0 else daysC c
def dK (c : ByteArray) : Bool := decide (0 ≤ daysC c)
theorem daysC_cases (c : ByteArray) : (0 < daysC c ∧ daysC c ≤ 1000) ∨ daysC c = -1 := by
 unfold daysC
 repeat' split
 all_goals first | exact Or.inl ⟨by decide, by decide⟩ | exact Or.inr rfl
theorem daysOf_any (c : ByteArray) (w : World) : Calls Tryz.prog 45 #[.string c] w fun r w' => r = .returned (.tuple #[.int .u64 (dU c), .bool (dK c)]) ∧ w' = w := by
 have hn : clA ≠ clB ∧ clA ≠ clC ∧ clB ≠ clC := by decide
 obtain ⟨n1, n2, n3⟩ := hn
 by_cases hA : c = clA
 ·have x1 := sameW hA
  have hq : daysC c = 30 := by unfold daysC; rw [if_pos hA]
  rw [show dU c = 30 by unfold dU; rw [hq]; rfl, show dK c = true by unfold dK; rw [hq]; rfl]
  clear hA n1 n2 n3 hq
  go_enter Tryz.func45, Tryz.ntmps45
  go_wp2
  exact bodyPost_ret (v := .tuple #[.int .u64 30, .bool true]) (by simp [results, Tryz.results45, go_sem]) rfl ⟨rfl, rfl⟩
 by_cases hB : c = clB
 ·have x1 := otherW hA
  have x2 := sameW hB
  have hq : daysC c = 90 := by unfold daysC; rw [if_neg hA, if_pos hB]
  rw [show dU c = 90 by unfold dU; rw [hq]; rfl, show dK c = true by unfold dK; rw [hq]; rfl]
  clear hA n1 n2 n3 hq
  go_enter Tryz.func45, Tryz.ntmps45
  go_wp2
  exact bodyPost_ret (v := .tuple #[.int .u64 90, .bool true]) (by simp [results, Tryz.results45, go_sem]) rfl ⟨rfl, rfl⟩
 by_cases hC : c = clC
 ·have x1 := otherW hA
  have x2 := otherW hB
  have x3 := sameW hC
  have hq : daysC c = 180 := by unfold daysC; rw [if_neg hA, if_neg hB, if_pos hC]
  rw [show dU c = 180 by unfold dU; rw [hq]; rfl, show dK c = true by unfold dK; rw [hq]; rfl]
  clear hA n1 n2 n3 hq
  go_enter Tryz.func45, Tryz.ntmps45
  go_wp2
  exact bodyPost_ret (v := .tuple #[.int .u64 180, .bool true]) (by simp [results, Tryz.results45, go_sem]) rfl ⟨rfl, rfl⟩
 ·have x1 := otherW hA
  have x2 := otherW hB
  have x3 := otherW hC
  have hq : daysC c = -1 := by unfold daysC; rw [if_neg hA, if_neg hB, if_neg hC]
  rw [show dU c = 0 by unfold dU; rw [hq]; rfl, show dK c = false by unfold dK; rw [hq]; rfl]
  clear hA n1 n2 n3 hq
  go_enter Tryz.func45, Tryz.ntmps45
  go_wp2
  exact bodyPost_ret (v := .tuple #[.int .u64 0, .bool false]) (by simp [results, Tryz.results45, go_sem]) rfl ⟨rfl, rfl⟩
theorem cdue_any (c : ByteArray) (last day : Int) (hl : In64 last) (hd : In64 day) (w : World) :
  Calls Tryz.prog 17 #[.string c, .int .i64 last, .int .i64 day] w fun r w' => r = .returned (.bool (dueC c last day)) ∧ Below w.heap.size w w' := by
 have hD : Calls Tryz.prog 45 #[.string c] w _ := daysOf_any c w
 rcases daysC_cases c with ⟨h2, h3⟩ | h2
 ·have hu : dU c = daysC c := by unfold dU; rw [if_neg (by omega)]
  have hk : dK c = true := by unfold dK; exact decide_eq_true (by omega)
  have hq := due_far hl hd rfl h2 h3
  rw [hu, hk] at hD
  rw [hq]
  unfold In64 at hl hd
  generalize daysC c = days at *
  have HD : Hid (Calls Tryz.prog 45 #[.string c] w _) := hD
  clear hu hk hq hD
  by_cases h1 : last ≤ day
  ·rw [decide_eq_true h1, Bool.true_and]
   have h1d : decide (last ≤ day) = true := decide_eq_true h1
   have hu : IntKind.u64.wrap (IntKind.u64.wrap day - IntKind.u64.wrap last) = day - last := by rw [IntKind.wrap_u64, IntKind.wrap_u64, IntKind.wrap_u64]; omega
   go_enter Tryz.func17, Tryz.ntmps17
   go_wp2_with (go_at_call 45; refine HD.out.mono ?_; rintro r w2 ⟨rfl, hw⟩; have hw' := hw.symm; subst hw')
   go_ret
   exact ⟨rfl, Below.refl _ _⟩
  ·rw [decide_eq_false h1, Bool.false_and]
   have h1d : decide (last ≤ day) = false := decide_eq_false h1
   go_enter Tryz.func17, Tryz.ntmps17
   go_wp2_with (go_at_call 45; refine HD.out.mono ?_; rintro r w2 ⟨rfl, hw⟩; have hw' := hw.symm; subst hw')
   go_ret
   exact ⟨rfl, Below.refl _ _⟩
 ·have hu : dU c = 0 := by unfold dU; rw [if_pos (by omega)]
  have hk : dK c = false := by unfold dK; exact decide_eq_false (by omega)
  have hq : dueC c last day = false := by unfold dueC; rw [h2, if_pos (Or.inl (by decide))]
  rw [hu, hk] at hD
  rw [hq]
  have HD : Hid (Calls Tryz.prog 45 #[.string c] w _) := hD
  clear hu hk hq hD
  go_enter Tryz.func17, Tryz.ntmps17
  go_wp2_with (go_at_call 45; refine HD.out.mono ?_; rintro r w2 ⟨rfl, hw⟩; have hw' := hw.symm; subst hw')
  go_ret
  exact ⟨rfl, Below.refl _ _⟩
theorem ownS_cases (x : Ln) : (ownS x = 0 ∧ placeErr x.1 = 0 ∧ isName x.2.1.data.toList = true ∧ 0 ≤ x.2.2 ∧ x.2.2 ≤ 1099511627776) ∨ (placeErr x.1 ≠ 0 ∧ ownS x = placeErr x.1) ∨ (placeErr x.1 = 0 ∧ isName x.2.1.data.toList = false ∧ ownS x = 5) ∨ (placeErr x.1 = 0 ∧ isName x.2.1.data.toList = true ∧ x.2.2 < 0 ∧ ownS x = 2) ∨ (placeErr x.1 = 0 ∧ isName x.2.1.data.toList = true ∧ 0 ≤ x.2.2 ∧ 1099511627776 < x.2.2 ∧ ownS x = 2) := by
 unfold ownS
 by_cases h1 : placeErr x.1 = 0
 ·rw [if_pos h1]
  cases h2 : isName x.2.1.data.toList with
  | false => exact Or.inr (Or.inr (Or.inl ⟨h1, rfl, rfl⟩))
  | true =>
   by_cases h3 : x.2.2 < 0
   ·exact Or.inr (Or.inr (Or.inr (Or.inl ⟨h1, rfl, h3, by rw [if_pos rfl, if_pos (Or.inl h3)]⟩)))
   ·by_cases h4 : 1099511627776 < x.2.2
    ·exact Or.inr (Or.inr (Or.inr (Or.inr ⟨h1, rfl, by omega, h4, by rw [if_pos rfl, if_pos (Or.inr h4)]⟩)))
    ·exact Or.inl ⟨by rw [if_pos rfl, if_neg (by omega)], h1, rfl, by omega, by omega⟩
 ·rw [if_neg h1]
  exact Or.inr (Or.inl ⟨h1, rfl⟩)
theorem twin_any (x y : Ln) (n : Nat) (w : World) (hy : LineAt w n 0 y) : Calls Tryz.prog 79 #[agN x, .pointer (some ⟨n, 0, none⟩)] w fun e w' => e = .returned (.bool (decide (x.1 = y.1 ∧ x.2.1 = y.2.1))) ∧ Below w.heap.size w w' := by
 obtain ⟨U, hU⟩ : ∃ U, w.alloc (.cells #[.string x.1.1, .int .i64 x.1.2.1, .int .i64 x.1.2.2, .string x.2.1, .int .i64 x.2.2] 48) = U := ⟨_, rfl⟩
 have hl : LineAt U w.heap.size 0 x := hU ▸ LineAt.new w x _ _ rfl
 have hb : Below w.heap.size w U := hU ▸ (Below.refl _ w).alloc (Nat.le_refl _) _
 have hy' : LineAt U n 0 y := hy.of_block (hb.block n hy.lt)
 have HB : Hid (Below w.heap.size w U) := hb
 rw [Bool.decide_and]
 obtain ⟨⟨a, r, b⟩, c, k⟩ := x
 obtain ⟨⟨a', r', b'⟩, c', k'⟩ := y
 obtain ⟨c0, c1, c2, c3, c4⟩ := hl
 obtain ⟨d0, d1, d2, d3, d4⟩ := hy'
 unfold agN
 simp only at *
 have hq := fun W => eqPl_run a a' r b r' b' W
 have hgd := Tryz.guardPs
 have e9 := same_eq c c'
 clear hb hy
 by_cases h1 : (a, r, b) = (a', r', b')
 ·rw [decide_eq_true h1] at hq ⊢
  by_cases h2 : c = c'
  ·rw [decide_eq_true h2] at e9 ⊢
   clear h1 h2
   go_enter Tryz.func79, Tryz.ntmps79
   go_wp2
   go_ret
   exact ⟨rfl, HB.out⟩
  ·rw [decide_eq_false h2] at e9 ⊢
   clear h1 h2
   go_enter Tryz.func79, Tryz.ntmps79
   go_wp2
   go_ret
   exact ⟨rfl, HB.out⟩
 ·rw [decide_eq_false h1] at hq ⊢
  clear h1
  go_enter Tryz.func79, Tryz.ntmps79
  go_wp2
  go_ret
  exact ⟨rfl, HB.out⟩
def lineE (l : List Ln) (x : Ln) : Nat := if ownS x = 0 then (if standsS l x then 7 else 0) else ownS x
theorem cline_any (x : Ln) (pp : Option Addr) (l : List Ln) (cap : Nat) (w : World) (s : Nat → Addr) (hs : Sent w s) (h : ShIn w pp l) (hn : l.length ≤ 1000) (hz : SzL x) :
  Calls Tryz.prog 41 #[agN x, .slice pp l.length cap] w fun e w' => e = .returned (errP s (lineE l x)) ∧ Below w.heap.size w w' := by
 obtain ⟨U, hU⟩ : ∃ U, w.alloc (.cells #[.string x.1.1, .int .i64 x.1.2.1, .int .i64 x.1.2.2, .string x.2.1, .int .i64 x.2.2] 48) = U := ⟨_, rfl⟩
 have hl : LineAt U w.heap.size 0 x := hU ▸ LineAt.new w x _ _ rfl
 have hb : Below w.heap.size w U := hU ▸ (Below.refl _ w).alloc (Nat.le_refl _) _
 have HB : Hid (Below w.heap.size w U) := hb
 have HP : Hid (Calls Tryz.prog 76 #[agP x.1] U _) := pcheck_any x.1 U s hz.1 (hs.below hb).two
 have HNm : Hid (∀ W, Calls Tryz.prog 77 #[.string x.2.1] W _) := fun W => name_any x.2.1 W hz.2
 have eg : ∀ args w, (callFunc 79 args).run Tryz.prog w = .ok (.enter 79 args) w := enters_of Tryz.func79 (by kernel_rfl) rfl
 have HCt : Hid (∀ W, Below U.heap.size U W → Calls Tryz.prog 78 #[.slice pp l.length cap, .func (.func 79) #[] #[.pointer (some ⟨w.heap.size, 0, none⟩)]] W fun e w' => e = .returned (.bool (standsS l x)) ∧ Below W.heap.size W w') := fun W hW =>
  lct_any 79 #[.pointer (some ⟨w.heap.size, 0, none⟩)] (fun y => decide (y.1 = x.1 ∧ y.2.1 = x.2.1)) eg pp l cap W (h.on (hb.trans (hW.mono hb.size))) hn fun y _ W' hW' => twin_any y x _ W' (hl.of_block ((hW.trans (hW'.mono hW.size)).block _ hl.lt))
 have HSe : Hid (∀ W, Below U.heap.size U W → Sent W s) := fun W hW => hs.below (hb.trans (hW.mono hb.size))
 have HLx : Hid (∀ W, Below U.heap.size U W → LineAt W w.heap.size 0 x) := fun W hW => hl.of_block (hW.block _ hl.lt)
 unfold agP at HP
 obtain ⟨c0, c1, c2, c3, c4⟩ := hl
 generalize hln : l.length = ln at *
 clear hs h hz hb eg hln
 rcases ownS_cases x with ⟨hO, hp0, hnm, hn0, hn1⟩ | ⟨hp0, hO⟩ | ⟨hp0, hnm, hO⟩ | ⟨hp0, hnm, hn0, hO⟩ | ⟨hp0, hnm, hn0, hn1, hO⟩
 ·rw [hp0, errP_zero] at HP
  rw [hnm] at HNm
  cases hst : standsS l x with
  | true =>
   rw [hst] at HCt
   have HE : Hid (errP s (lineE l x) = err (s 6)) := by show _ = _; unfold lineE; rw [if_pos hO, if_pos hst]; rfl
   clear hst hO hp0 hnm
   go_enter Tryz.func41, Tryz.ntmps41
   go_wp2_with (first
   | (go_at_call 76; refine HP.out.mono ?_; rintro r w2 ⟨rfl, hb2⟩; have HB2 : Hid (Below U.heap.size U w2) := hb2; have HB2w : Hid (Below w.heap.size w w2) := HB.out.trans (hb2.mono HB.out.size); obtain ⟨d0, d1, d2, d3, d4⟩ := HLx.out w2 hb2; obtain ⟨g0, g1, g2, g3, g4, g5, g6, g7, g8, g9, g10, g11⟩ := (HSe.out w2 hb2).cells; clear g0 g2 g3 g5 g6 g7 g8 g9 g10 g11 hb2)
   | (go_at_call 77; refine (HNm.out _).mono ?_; rintro r w3 ⟨rfl, hw3⟩; have hw3' := hw3.symm; subst hw3')
   | (go_at_call 78; refine (HCt.out w2 HB2.out).mono ?_; rintro r w4 ⟨rfl, hb4⟩; have HB4w : Hid (Below w.heap.size w w4) := HB2w.out.trans (hb4.mono HB2w.out.size); obtain ⟨g0, g1, g2, g3, g4, g5, g6, g7, g8, g9, g10, g11⟩ := (HSe.out w4 (HB2.out.trans (hb4.mono HB2.out.size))).cells; clear g0 g1 g2 g3 g4 g5 g7 g8 g9 g10 g11 hb4))
   go_ret
   exact ⟨by rw [HE.out]; rfl, HB4w.out⟩
  | false =>
   rw [hst] at HCt
   have HE : Hid (errP s (lineE l x) = .nilIface) := by show _ = _; unfold lineE; rw [if_pos hO, hst]; rfl
   clear hst hO hp0 hnm
   go_enter Tryz.func41, Tryz.ntmps41
   go_wp2_with (first
   | (go_at_call 76; refine HP.out.mono ?_; rintro r w2 ⟨rfl, hb2⟩; have HB2 : Hid (Below U.heap.size U w2) := hb2; have HB2w : Hid (Below w.heap.size w w2) := HB.out.trans (hb2.mono HB.out.size); obtain ⟨d0, d1, d2, d3, d4⟩ := HLx.out w2 hb2; obtain ⟨g0, g1, g2, g3, g4, g5, g6, g7, g8, g9, g10, g11⟩ := (HSe.out w2 hb2).cells; clear g0 g2 g3 g5 g6 g7 g8 g9 g10 g11 hb2)
   | (go_at_call 77; refine (HNm.out _).mono ?_; rintro r w3 ⟨rfl, hw3⟩; have hw3' := hw3.symm; subst hw3')
   | (go_at_call 78; refine (HCt.out w2 HB2.out).mono ?_; rintro r w4 ⟨rfl, hb4⟩; have HB4w : Hid (Below w.heap.size w w4) := HB2w.out.trans (hb4.mono HB2w.out.size); obtain ⟨g0, g1, g2, g3, g4, g5, g6, g7, g8, g9, g10, g11⟩ := (HSe.out w4 (HB2.out.trans (hb4.mono HB2.out.size))).cells; clear g0 g1 g2 g3 g4 g5 g7 g8 g9 g10 g11 hb4))
   go_ret
   exact ⟨by rw [HE.out]; rfl, HB4w.out⟩
 ·rw [errP_pos s hp0] at HP
  have HE : Hid (errP s (lineE l x) = err (s (placeErr x.1 - 1))) := by show _ = _; unfold lineE; rw [if_neg (by rw [hO]; exact hp0), hO, errP_pos s hp0]
  generalize s (placeErr x.1 - 1) = ad at *
  clear hO hp0 HCt
  go_enter Tryz.func41, Tryz.ntmps41
  go_wp2_with (first
  | (go_at_call 76; refine HP.out.mono ?_; rintro r w2 ⟨rfl, hb2⟩; have HB2 : Hid (Below U.heap.size U w2) := hb2; have HB2w : Hid (Below w.heap.size w w2) := HB.out.trans (hb2.mono HB.out.size); obtain ⟨d0, d1, d2, d3, d4⟩ := HLx.out w2 hb2; obtain ⟨g0, g1, g2, g3, g4, g5, g6, g7, g8, g9, g10, g11⟩ := (HSe.out w2 hb2).cells; clear g0 g2 g3 g5 g6 g7 g8 g9 g10 g11 hb2)
  | (go_at_call 77; refine (HNm.out _).mono ?_; rintro r w3 ⟨rfl, hw3⟩; have hw3' := hw3.symm; subst hw3')
  | (go_at_call 78; refine (HCt.out w2 HB2.out).mono ?_; rintro r w4 ⟨rfl, hb4⟩; have HB4w : Hid (Below w.heap.size w w4) := HB2w.out.trans (hb4.mono HB2w.out.size); obtain ⟨g0, g1, g2, g3, g4, g5, g6, g7, g8, g9, g10, g11⟩ := (HSe.out w4 (HB2.out.trans (hb4.mono HB2.out.size))).cells; clear g0 g1 g2 g3 g4 g5 g7 g8 g9 g10 g11 hb4))
  go_ret
  exact ⟨by rw [HE.out]; rfl, HB2w.out⟩
 ·rw [hp0, errP_zero] at HP
  rw [hnm] at HNm
  have HE : Hid (errP s (lineE l x) = err (s 4)) := by show _ = _; unfold lineE; rw [hO, if_neg (by decide)]; rfl
  clear hO hp0 hnm HCt
  go_enter Tryz.func41, Tryz.ntmps41
  go_wp2_with (first
  | (go_at_call 76; refine HP.out.mono ?_; rintro r w2 ⟨rfl, hb2⟩; have HB2 : Hid (Below U.heap.size U w2) := hb2; have HB2w : Hid (Below w.heap.size w w2) := HB.out.trans (hb2.mono HB.out.size); obtain ⟨d0, d1, d2, d3, d4⟩ := HLx.out w2 hb2; obtain ⟨g0, g1, g2, g3, g4, g5, g6, g7, g8, g9, g10, g11⟩ := (HSe.out w2 hb2).cells; clear g0 g2 g3 g5 g6 g7 g8 g9 g10 g11 hb2)
  | (go_at_call 77; refine (HNm.out _).mono ?_; rintro r w3 ⟨rfl, hw3⟩; have hw3' := hw3.symm; subst hw3')
  | (go_at_call 78; refine (HCt.out w2 HB2.out).mono ?_; rintro r w4 ⟨rfl, hb4⟩; have HB4w : Hid (Below w.heap.size w w4) := HB2w.out.trans (hb4.mono HB2w.out.size); obtain ⟨g0, g1, g2, g3, g4, g5, g6, g7, g8, g9, g10, g11⟩ := (HSe.out w4 (HB2.out.trans (hb4.mono HB2.out.size))).cells; clear g0 g1 g2 g3 g4 g5 g7 g8 g9 g10 g11 hb4))
  go_ret
  exact ⟨by rw [HE.out]; rfl, HB2w.out⟩
 ·rw [hp0, errP_zero] at HP
  rw [hnm] at HNm
  have HE : Hid (errP s (lineE l x) = err (s 1)) := by show _ = _; unfold lineE; rw [hO, if_neg (by decide)]; rfl
  clear hO hp0 hnm HCt
  go_enter Tryz.func41, Tryz.ntmps41
  go_wp2_with (first
  | (go_at_call 76; refine HP.out.mono ?_; rintro r w2 ⟨rfl, hb2⟩; have HB2 : Hid (Below U.heap.size U w2) := hb2; have HB2w : Hid (Below w.heap.size w w2) := HB.out.trans (hb2.mono HB.out.size); obtain ⟨d0, d1, d2, d3, d4⟩ := HLx.out w2 hb2; obtain ⟨g0, g1, g2, g3, g4, g5, g6, g7, g8, g9, g10, g11⟩ := (HSe.out w2 hb2).cells; clear g0 g2 g3 g5 g6 g7 g8 g9 g10 g11 hb2)
  | (go_at_call 77; refine (HNm.out _).mono ?_; rintro r w3 ⟨rfl, hw3⟩; have hw3' := hw3.symm; subst hw3')
  | (go_at_call 78; refine (HCt.out w2 HB2.out).mono ?_; rintro r w4 ⟨rfl, hb4⟩; have HB4w : Hid (Below w.heap.size w w4) := HB2w.out.trans (hb4.mono HB2w.out.size); obtain ⟨g0, g1, g2, g3, g4, g5, g6, g7, g8, g9, g10, g11⟩ := (HSe.out w4 (HB2.out.trans (hb4.mono HB2.out.size))).cells; clear g0 g1 g2 g3 g4 g5 g7 g8 g9 g10 g11 hb4))
  go_ret
  exact ⟨by rw [HE.out]; rfl, HB2w.out⟩
 ·rw [hp0, errP_zero] at HP
  rw [hnm] at HNm
  have HE : Hid (errP s (lineE l x) = err (s 1)) := by show _ = _; unfold lineE; rw [hO, if_neg (by decide)]; rfl
  clear hO hp0 hnm HCt
  go_enter Tryz.func41, Tryz.ntmps41
  go_wp2_with (first
  | (go_at_call 76; refine HP.out.mono ?_; rintro r w2 ⟨rfl, hb2⟩; have HB2 : Hid (Below U.heap.size U w2) := hb2; have HB2w : Hid (Below w.heap.size w w2) := HB.out.trans (hb2.mono HB.out.size); obtain ⟨d0, d1, d2, d3, d4⟩ := HLx.out w2 hb2; obtain ⟨g0, g1, g2, g3, g4, g5, g6, g7, g8, g9, g10, g11⟩ := (HSe.out w2 hb2).cells; clear g0 g2 g3 g5 g6 g7 g8 g9 g10 g11 hb2)
  | (go_at_call 77; refine (HNm.out _).mono ?_; rintro r w3 ⟨rfl, hw3⟩; have hw3' := hw3.symm; subst hw3')
  | (go_at_call 78; refine (HCt.out w2 HB2.out).mono ?_; rintro r w4 ⟨rfl, hb4⟩; have HB4w : Hid (Below w.heap.size w w4) := HB2w.out.trans (hb4.mono HB2w.out.size); obtain ⟨g0, g1, g2, g3, g4, g5, g6, g7, g8, g9, g10, g11⟩ := (HSe.out w4 (HB2.out.trans (hb4.mono HB2.out.size))).cells; clear g0 g1 g2 g3 g4 g5 g7 g8 g9 g10 g11 hb4))
  go_ret
  exact ⟨by rw [HE.out]; rfl, HB2w.out⟩
theorem ShIn.take {w : World} {pp : Option Addr} {l : List Ln} (h : ShIn w pp l) (k : Nat) : ShIn w pp (l.take k) := by
 rcases h with rfl | ⟨bq, off, h1, h2⟩
 ·exact Or.inl (by rw [List.take_nil])
 ·exact Or.inr ⟨bq, off, h1, h2.lt, fun j x hj => h2.at_ j x (by
   rw [List.getElem?_take] at hj
   split at hj
   ·exact hj
   ·cases hj)⟩
theorem lineE_take {l : List Ln} {k : Nat} {x : Ln} (h : l[k]? = some x) : lineE (l.take k) x = sheetE l k := by
 rw [sheetE_eq h]; rfl
theorem ccheck_any (pp : Option Addr) (l : List Ln) (cap : Nat) (w : World) (s : Nat → Addr) (hs : Sent w s) (h : ShIn w pp l) (hcap : l.length ≤ cap) (hn : l.length ≤ 1000) (hz : ∀ x ∈ l, SzL x) :
  Calls Tryz.prog 15 #[.slice pp l.length cap] w fun e w' => ChkR s l w' e ∧ Below w.heap.size w w' := by
 have HL : Hid (∀ W k x, Below w.heap.size w W → l[k]? = some x → ∃ bq off, pp = some ⟨bq, off, none⟩ ∧ LineAt W bq (off + k * 5) x) := fun W k x hb hx => h.line hb hx
 have HC : Hid (∀ W k x, Below w.heap.size w W → l[k]? = some x → Calls Tryz.prog 41 #[agN x, .slice pp k cap] W fun e w' => e = .returned (errP s (sheetE l k)) ∧ Below W.heap.size W w') := fun W k x hb hx => by
  have hk : (l.take k).length = k := by rw [List.length_take]; have := (List.getElem?_eq_some_iff.1 hx).1; omega
  have := cline_any x pp (l.take k) cap W s (hs.below hb) ((h.on hb).take k) (by rw [hk]; have := (List.getElem?_eq_some_iff.1 hx).1; omega) (hz x (List.mem_of_getElem? hx))
  rw [lineE_take hx, hk] at this
  exact this
 unfold ChkR
 obtain ⟨ln, hln⟩ : ∃ ln, l.length = ln := ⟨_, rfl⟩
 have HN : Hid (ln = l.length) := hln.symm
 rw [hln] at hn hcap ⊢
 clear h hz hln hs
 go_enter Tryz.func15, Tryz.ntmps15
 go_wp2
 go_loopw [8] (fun vi wr => ∃ k : Nat, k ≤ ln ∧ vi = .int .i64 k ∧ (∀ j, j < k → sheetE l j = 0) ∧ Below w.heap.size w wr) (fun vi _ => ln - (RowKit.intOf vi).toNat)
 case atStart => exact ⟨0, Nat.zero_le _, rfl, fun j hj => absurd hj (Nat.not_lt_zero _), Below.refl _ _⟩
 case round =>
  obtain ⟨k, hk, rfl, hno, hwr⟩ := hrel
  have HNo : Hid (∀ j, j < k → sheetE l j = 0) := hno
  have HWr : Hid (Below w.heap.size w wr) := hwr
  clear hno
  by_cases hlt : k < ln
  ·obtain ⟨x, hx⟩ : ∃ x, l[k]? = some x := ⟨_, List.getElem?_eq_getElem (by rw [← HN.out]; exact hlt)⟩
   obtain ⟨bq, off, rfl, c0, c1, c2, c3, c4⟩ := HL.out wr k x hwr hx
   obtain ⟨W1, hW1⟩ : ∃ W1, wr.alloc (.cells #[.string x.1.1, .int .i64 x.1.2.1, .int .i64 x.1.2.2, .string x.2.1, .int .i64 x.2.2] 48) = W1 := ⟨_, rfl⟩
   have hl1 : LineAt W1 wr.heap.size 0 x := hW1 ▸ LineAt.new wr x _ _ rfl
   have hb1 : Below w.heap.size w W1 := hW1 ▸ hwr.alloc hwr.size _
   have hbR : ∀ d os, Below w.heap.size w (grow (redrawn W1 d) os) := fun d os => hb1.trans ((below_regrown W1 d os).mono hb1.size)
   have HBR : Hid (∀ d os, Below w.heap.size w (grow (redrawn W1 d) os)) := hbR
   have cC := fun d os => Calls.regrown_of (w := W1) (HC.out _ k x (hbR d os) hx)
   obtain ⟨f0, f1, f2, f3, f4⟩ := hl1
   simp only [Nat.zero_add] at f0 f1 f2 f3 f4
   have r0 := cell_regrown f0
   have r1 := cell_regrown f1
   have r2 := cell_regrown f2
   have r3 := cell_regrown f3
   have r4 := cell_regrown f4
   clear hx hwr hb1 hbR
   obtain ⟨⟨xz, xr, xb⟩, xl, xn⟩ := x
   unfold agN at cC
   simp only at c0 c1 c2 c3 c4 r0 r1 r2 r3 r4 f0 f1 f2 f3 f4 hW1 cC
   have hkc : (k : Int) ≤ (cap : Int) := by omega
   have hk0 : (0 : Int) ≤ (k : Int) := by omega
   have hkt : ((k : Int)).toNat = k := by omega
   by_cases hE : sheetE l k = 0
   ·have HN1 : Hid (∀ j, j < k + 1 → sheetE l j = 0) := fun j hj => by
     rcases Nat.lt_or_ge j k with q | q
     ·exact HNo.out j q
     ·obtain rfl : j = k := by omega
      exact hE
    rw [hE, errP_zero] at cC
    clear hE
    go_wp2
    clear f0 f1 f2 f3 f4 c0 c1 c2 c3 c4
    refine wp_region_quiet_below (by kernel_rfl) (by kernel_rfl) ?_
    repeat (quiet_step (first | (go_at_call 41; exact cC _ _)))
    refine wpQuiet_nil ?_
    intro _ hw'
    obtain ⟨⟨dq, osq⟩, hw''⟩ := hw'
    subst hw''
    have HBE : Hid (Below w.heap.size w _) := HBR.out dq osq
    go_wp2
    go_roundw
    case rel => exact ⟨k + 1, by omega, by go_num, HN1.out, HBE.out⟩
    case measure => simp [RowKit.intOf]; omega
   ·have HE : Hid (sheetE l k ≠ 0) := hE
    rw [errP_pos s hE] at cC
    clear hE
    have HAd : Hid (s (sheetE l k - 1) = s (sheetE l k - 1)) := rfl
    generalize had : s (sheetE l k - 1) = ad at cC
    have HA : Hid (s (sheetE l k - 1) = ad) := had
    clear had
    go_wp2
    clear f0 f1 f2 f3 f4 c0 c1 c2 c3 c4
    refine wp_region_quiet_below (by kernel_rfl) (by kernel_rfl) ?_
    repeat (quiet_step (first | (go_at_call 41; exact cC _ _)))
    refine wpQuiet_nil ?_
    intro _ hw'
    obtain ⟨⟨dq, osq⟩, hw''⟩ := hw'
    subst hw''
    have HBE : Hid (Below w.heap.size w _) := HBR.out dq osq
    generalize grow (redrawn W1 dq) osq = W2 at *
    go_wp2
    go_ret
    exact ⟨Or.inr ⟨k, hlt, HNo.out, HE.out, _, rfl, _, rfl, by simp, by rw [HA.out]; simp⟩, HBE.out.alloc HBE.out.size _⟩
  ·go_wp2
   go_ret
   exact ⟨Or.inl ⟨fun j hj => HNo.out j (by omega), rfl⟩, HWr.out⟩
theorem countK_any (s : Nat → Addr) : CountK s where
 check W pp l cap hs h hc h30 hz := ccheck_any pp l cap W s hs h hc (by omega) hz
 due W c last day hl hd := cdue_any c last day hl hd W
def encD : Enc En where
 k := 14
 enc e := [.string e.1, .string e.2.1.1, .int .i64 e.2.1.2, .string e.2.2.1.1, .string e.2.2.1.2.1, .int .i64 e.2.2.1.2.2.1, .int .i64 e.2.2.1.2.2.2, .string e.2.2.2.1.1, .int .i64 e.2.2.2.1.2.1, .int .i64 e.2.2.2.1.2.2, .string e.2.2.2.2.1.1, .int .i64 e.2.2.2.2.1.2.1, .int .i64 e.2.2.2.2.1.2.2, .int .i64 e.2.2.2.2.2]
 len _ := rfl
 one e v hv := by
  simp only [List.mem_cons, List.not_mem_nil, or_false] at hv
  rcases hv with rfl | rfl | rfl | rfl | rfl | rfl | rfl | rfl | rfl | rfl | rfl | rfl | rfl | rfl <;> rfl
theorem Tryz.infoEnt : (Tryz.prog.info? 43).map (fun i => (i.zero, i.size, i.bytes)) = some (some (.agg #[.string ⟨#[]⟩, .string ⟨#[]⟩, .int .i64 0, .string ⟨#[]⟩, .string ⟨#[]⟩, .int .i64 0, .int .i64 0, .string ⟨#[]⟩, .int .i64 0, .int .i64 0, .string ⟨#[]⟩, .int .i64 0, .int .i64 0, .int .i64 0]), 14, 160) := by kernel_rfl
theorem flat_lines (m : List Ln) : encLn.flat m = flatN m := rfl
theorem RefB.stk {w : World} {B q : Nat} {b : Bk} (h : RefB w B q b) : ∃ vS, ∀ W, Below w.heap.size w W → W.cell? ⟨q, 2, none⟩ = some vS ∧ RefS W vS b.2.2 := by
 obtain ⟨vG, vL, vS, h1, h2, h3, h4, h5⟩ := h
 refine ⟨vS, fun W hb => ⟨?_, ?_⟩⟩
 ·rw [cell_of_heap ((hb.block q (Array.getElem?_eq_some_iff.1 h1).1).trans h1)]; rfl
 ·have := h4.below hb
  unfold Enc.Row at this
  rw [flat_lines] at this
  exact this
end Go.Proofs.YtppodkkefegbkaaGreatDoor
