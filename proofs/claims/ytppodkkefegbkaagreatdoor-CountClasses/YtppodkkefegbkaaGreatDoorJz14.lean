/-
 Plain mathematics of counts: behind entries of what a sheet tells, done one by one with no error, the stock is what was seen, and the same sheet tells nothing. 
-/
import Derived.Test.YtppodkkefegbkaaGreatDoorJz9
import Derived.Test.YtppodkkefegbkaaGreatDoorJz11
import Derived.Test.YtppodkkefegbkaaGreatDoorJz6
import Derived.Test.YtppodkkefegbkaaGreatDoorJz3
import Derived.Laws.StructEq
import Derived.BigQuiet
import Derived.Test.YtppodkkefegbkaaGreatDoorJz2
import Derived.Test.YtppodkkefegbkaaGreatDoorJz13
import Derived.Test.YtppodkkefegbkaaGreatDoorJz4
import Derived.Test.YtppodkkefegbkaaGreatDoorGenS
set_option maxRecDepth 100000
set_option maxHeartbeats 16000000
namespace Go.Proofs.YtppodkkefegbkaaGreatDoor
open Go.Lib Go.Sort
end Go.Proofs.YtppodkkefegbkaaGreatDoor
namespace Go.Proofs.YtppodkkefegbkaaGreatDoor
open Go.RowKit Go.Lib Go.Sort
structure Lns (w : World) (q o : Nat) (l : List Ln) : Prop where
 lt : q < w.heap.size
 at_ : ∀ k x, l[k]? = some x → LineAt w q (o + k * 5) x
theorem Lns.below {w w' : World} {B q o : Nat} {l : List Ln} (h : Lns w q o l) (hB : q < B) (hb : Below B w w') : Lns w' q o l :=
 ⟨Nat.lt_of_lt_of_le h.lt hb.size, fun k x hk => (h.at_ k x hk).of_block (hb.block q hB)⟩
abbrev ShIn (w : World) (pp : Option Addr) (l : List Ln) : Prop := l = [] ∨ ∃ bq off, pp = some ⟨bq, off, none⟩ ∧ Lns w bq off l
theorem ShIn.on {w W : World} {pp : Option Addr} {l : List Ln} (h : ShIn w pp l) (hb : Below w.heap.size w W) : ShIn W pp l := h.imp id fun ⟨bq, off, h1, h2⟩ => ⟨bq, off, h1, h2.below h2.lt hb⟩
theorem ShIn.line {w W : World} {pp : Option Addr} {l : List Ln} (h : ShIn w pp l) (hb : Below w.heap.size w W) {k : Nat} {x : Ln} (hx : l[k]? = some x) : ∃ bq off, pp = some ⟨bq, off, none⟩ ∧ LineAt W bq (off + k * 5) x := by
 rcases h.on hb with rfl | ⟨bq, off, h1, h2⟩
 ·simp at hx
 ·exact ⟨bq, off, h1, h2.at_ k x hx⟩
def SzL (x : Ln) : Prop := x.1.1.size ≤ maxLen ∧ x.2.1.size ≤ maxLen
theorem Tryz.guardPs : Tryz.prog.eqGuardType Tryz.prog.depth 41 = false := by kernel_rfl
theorem eqPl_run (a a' : ByteArray) (r b r' b' : Int) (w : World) : (Op.equalIn 10000 41 (.agg #[.string a, .int .i64 r, .int .i64 b]) (.agg #[.string a', .int .i64 r', .int .i64 b'])).run Tryz.prog w = .ok (decide ((a, r, b) = (a', r', b'))) w := by
 have u3 := Tryz.underlying3
 have a3 := Tryz.isAgg3
 have z3 := Tryz.sizeOf3
 have u9 := Tryz.underlying9
 have a9 := Tryz.isAgg9
 have z9 := Tryz.sizeOf9
 have hS : Tryz.prog.underlying 41 = some (.struct (Tryz.prog.fieldsOf 41)) := by kernel_rfl
 have hp : Tryz.prog.stoodInHeld 41 = false := by kernel_rfl
 rw [show (10000 : Nat) = 9999 + 1 from rfl, run_equalIn_agg w 9999 41 _ _ hS hp]
 simp only [Program.fieldsOf, Tryz.underlying41]
 have e3 := same_eq a a'
 go_simp
 by_cases h1 : a = a' <;> by_cases h2 : r = r' <;> by_cases h3 : b = b' <;> simp [h1, h2, h3]
theorem sameW {k z : ByteArray} (h : k = z) : (k.toList == z.data.toList) = true := by
 have := same_eq k z
 rw [decide_eq_true h, Lib.toList_data z] at this
 exact this
theorem otherW {k z : ByteArray} (h : k ≠ z) : (k.toList == z.data.toList) = false := by
 have := same_eq k z
 rw [decide_eq_false h, Lib.toList_data z] at this
 exact this
theorem dueC_of {c : ByteArray} {last day days D : Int} (hd : daysC c = days) (h0 : 0 ≤ days) (hD : IntKind.i64.wrap (day - days) = D) : dueC c last day = if day < last then false else (decide (last ≤ D) && decide (D ≤ day)) := by
 unfold dueC
 rw [hd, hD]
 by_cases h : day < last
 ·rw [if_pos (Or.inr h), if_pos h]
 ·rw [if_neg (by omega), if_neg h]
def Txs (w : World) (p : Option Addr) (xs : List ByteArray) : Prop := ∀ i s, xs[i]? = some s → ∃ g o, p = some ⟨g, o, none⟩ ∧ w.cell? ⟨g, o + i, none⟩ = some (.string s)
theorem Txs.below {w w' : World} {p : Option Addr} {xs : List ByteArray} (h : Txs w p xs) (hb : Below w.heap.size w w') : Txs w' p xs := fun i s hi => by
 obtain ⟨g, o, h1, h2⟩ := h i s hi
 exact ⟨g, o, h1, (hb.cell (p := ⟨g, o + i, none⟩) (cell_lt h2)).trans h2⟩
end Go.Proofs.YtppodkkefegbkaaGreatDoor
namespace Go.Proofs.YtppodkkefegbkaaGreatDoor
open Go.Lib Go.Sort
theorem ahead_le {m : List Gs} (hOk : OutOk m) {n n' : Int} {i i' : Nat} (h : n < n') : ∀ k, frontG m n' i' k ≤ frontG m n i k
 | 0 => Int.le_refl _
 | k + 1 => by
  have ih := ahead_le hOk (i := i) (i' := i') h k
  cases hg : m[k]? with
  | none =>
   have e : ∀ n i, frontG m n i (k + 1) = frontG m n i k := fun n i => by
    show (match m[k]? with | some g => _ | none => _) = _
    rw [hg]
   rw [e, e]; exact ih
  | some g =>
   rw [frontG_succ hg, frontG_succ hg]
   obtain ⟨h3, _⟩ := hOk g (List.mem_of_getElem? hg)
   cases hr : rankG n' i' k g with
   | false =>
    rw [if_neg (by decide)]
    split <;> omega
   | true =>
    have h9 : rankG n i k g = true := by
     unfold rankG at hr ⊢
     simp only [Bool.or_eq_true, Bool.and_eq_true, decide_eq_true_eq] at hr ⊢
     left
     rcases hr with h1 | ⟨h1, _⟩ <;> omega
    rw [h9, if_pos rfl, if_pos rfl]
    omega
def rkC (c : ByteArray) : Nat := if c = clA then 0 else if c = clB then 1 else 2
theorem classG_one (all a : Int) : classG all a = clA ∨ classG all a = clB ∨ classG all a = clC := by
 unfold classG
 repeat' split
 all_goals simp
theorem class_mono {all a a' : Int} (h : a ≤ a') : rkC (classG all a) ≤ rkC (classG all a') := by
 have q1 : rkC clA = 0 := by decide
 have q2 : rkC clB = 1 := by decide
 have q3 : rkC clC = 2 := by decide
 unfold classG
 repeat' split
 all_goals (try rw [q1]) <;> (try rw [q2]) <;> (try rw [q3]) <;> omega
theorem class_more {m : List Gs} (hOk : OutOk m) {i k : Nat} {gi gk : Gs} (h : outG gi < outG gk) : rkC (classAt m k gk) ≤ rkC (classAt m i gi) := class_mono (ahead_le hOk h _)
theorem outsG_cons (g : Gs) (m : List Gs) : outsG (g :: m) = outG g + outsG m := by unfold outsG; rw [List.map_cons, List.sum_cons]
theorem outs_any : ∀ {m : List Gs}, OutOk m → ((0 < outsG m ∧ ∃ g ∈ m, 0 < outG g) ∨ (outsG m = 0 ∧ ∀ g ∈ m, outG g = 0))
 | [], _ => Or.inr ⟨rfl, fun g hg => by cases hg⟩
 | g :: m, h => by
  obtain ⟨h3, _⟩ := h g (List.mem_cons_self ..)
  have h' : OutOk m := fun x hx => h x (List.mem_cons_of_mem _ hx)
  rw [outsG_cons]
  have hb := (outsG_bound h').1
  by_cases hg : 0 < outG g
  ·exact Or.inl ⟨by omega, g, List.mem_cons_self .., hg⟩
  ·rcases outs_any h' with ⟨h1, x, hx, h2⟩ | ⟨h1, h2⟩
   ·exact Or.inl ⟨by omega, x, List.mem_cons_of_mem _ hx, h2⟩
   ·exact Or.inr ⟨by omega, fun x hx => by
     rcases List.mem_cons.1 hx with rfl | hx
     ·omega
     ·exact h2 x hx⟩
theorem top_one : ∀ (m : List Gs), m ≠ [] → ∃ (i : Nat) (g : Gs), m[i]? = some g ∧ (∀ (k : Nat) (x : Gs), m[k]? = some x → outG x ≤ outG g) ∧ ∀ (k : Nat) (x : Gs), m[k]? = some x → k < i → outG x < outG g
 | [], h => absurd rfl h
 | [g], _ => ⟨0, g, rfl, fun k x hx => by
   cases k with
   | zero => cases hx; exact Int.le_refl _
   | succ k => simp at hx, fun k x _ hk => absurd hk (Nat.not_lt_zero _)⟩
 | g :: y :: m, _ => by
  obtain ⟨i, t, ht, h1, h2⟩ := top_one (y :: m) (by simp)
  by_cases hg : outG t ≤ outG g
  ·refine ⟨0, g, rfl, fun k x hx => ?_, fun k x _ hk => absurd hk (Nat.not_lt_zero _)⟩
   cases k with
   | zero => cases hx; exact Int.le_refl _
   | succ k => exact Int.le_trans (h1 k x (by simpa using hx)) hg
  ·refine ⟨i + 1, t, by simpa using ht, fun k x hx => ?_, fun k x hx hk => ?_⟩
   ·cases k with
    | zero => cases hx; omega
    | succ k => exact h1 k x (by simpa using hx)
   ·cases k with
    | zero => cases hx; omega
    | succ k => exact h2 k x (by simpa using hx) (by omega)
theorem ahead_none {m : List Gs} {i : Nat} {g : Gs} (h1 : ∀ (k : Nat) (x : Gs), m[k]? = some x → outG x ≤ outG g) (h2 : ∀ (k : Nat) (x : Gs), m[k]? = some x → k < i → outG x < outG g) : ∀ k, frontG m (outG g) i k = 0
 | 0 => rfl
 | k + 1 => by
  have ih := ahead_none h1 h2 k
  cases hg : m[k]? with
  | none =>
   have e : frontG m (outG g) i (k + 1) = frontG m (outG g) i k := by
    show (match m[k]? with | some g => _ | none => _) = _
    rw [hg]
   rw [e]; exact ih
  | some x =>
   rw [frontG_succ hg]
   have h9 : rankG (outG g) i k x = false := by
    unfold rankG
    rw [decide_eq_false (by have := h1 k x hg; omega), Bool.false_or]
    by_cases hk : k < i
    ·rw [decide_eq_false (by have := h2 k x hg hk; omega)]; rfl
    ·rw [decide_eq_false hk, Bool.and_false]
   rw [h9, if_neg (by decide)]
   exact ih
theorem class_first {m : List Gs} (hOk : OutOk m) : ((∃ g ∈ m, 0 < outG g) ∧ ∃ (i : Nat) (g : Gs), m[i]? = some g ∧ classAt m i g = clA) ∨ ((∀ g ∈ m, outG g = 0) ∧ ∀ (i : Nat) (g : Gs), m[i]? = some g → classAt m i g = clC) := by
 rcases outs_any hOk with ⟨h1, h2⟩ | ⟨h1, h2⟩
 ·refine Or.inl ⟨h2, ?_⟩
  have hne : m ≠ [] := fun e => by
   obtain ⟨g, hg, _⟩ := h2
   rw [e] at hg
   cases hg
  obtain ⟨i, g, hg, h3, h4⟩ := top_one m hne
  refine ⟨i, g, hg, ?_⟩
  unfold classAt classG
  rw [ahead_none h3 h4, if_pos ⟨h1, by omega⟩]
 ·refine Or.inr ⟨h2, fun i g _ => ?_⟩
  unfold classAt classG
  rw [h1, if_neg (by omega), if_neg (by omega)]
end Go.Proofs.YtppodkkefegbkaaGreatDoor
namespace Go.Proofs.YtppodkkefegbkaaGreatDoor
open Go.RowKit Go.Lib Go.Sort
def FaultV (w : World) (s : Nat → Addr) (k c : Nat) (v : Value) : Prop := ∃ a, v = .iface 83 (.pointer (some ⟨a, 0, none⟩)) ∧ w.cell? ⟨a, 0, none⟩ = some (.int .i64 k) ∧ w.cell? ⟨a, 1, none⟩ = some (err (s (c - 1)))
def ChkR (s : Nat → Addr) (l : List Ln) (w' : World) (e : Ending) : Prop :=
 ((∀ j, j < l.length → sheetE l j = 0) ∧ e = .returned .nilIface) ∨ ∃ k, k < l.length ∧ (∀ j, j < k → sheetE l j = 0) ∧ sheetE l k ≠ 0 ∧ ∃ v, e = .returned v ∧ FaultV w' s k (sheetE l k) v
def In64 (n : Int) : Prop := -9223372036854775808 ≤ n ∧ n ≤ 9223372036854775807
structure CountK (s : Nat → Addr) : Prop where
 check : ∀ (W : World) (pp : Option Addr) (l : List Ln) (cap : Nat), Sent W s → ShIn W pp l → l.length ≤ cap → l.length ≤ 30 → (∀ x ∈ l, SzL x) → Calls Tryz.prog 15 #[.slice pp l.length cap] W fun e w' => ChkR s l w' e ∧ Below W.heap.size W w'
 due : ∀ (W : World) (c : ByteArray) (last day : Int), In64 last → In64 day → Calls Tryz.prog 17 #[.string c, .int .i64 last, .int .i64 day] W fun e w' => e = .returned (.bool (dueC c last day)) ∧ Below W.heap.size W w'
structure CountC (s : Nat → Addr) : Prop where
 classes : ∀ (W : World) (B : Nat) (x : Bl) (b : Bk), IsBk W B x b → Calls Tryz.prog 20 #[.pointer (some ⟨x.p, 0, none⟩)] W fun e w' => (∃ p c, e = .returned (.slice p b.1.length c) ∧ Txs w' p (classesG b.1 b.1.length)) ∧ Below W.heap.size W w'
theorem own_sheet : sheetE [((⟨#[97]⟩, 1, 1), ⟨#[108, 49]⟩, 5)] 0 = 0 := by decide
theorem due_own : dueC clA 0 30 = true ∧ dueC clA 0 29 = false := by decide
theorem lix_any (g : Nat) (cb : Array Value) (p : Ln → Bool) (eg : ∀ args w, (callFunc g args).run Tryz.prog w = .ok (.enter g args) w) (pp : Option Addr) (l : List Ln) (cap : Nat) (w : World) (h : ShIn w pp l) (hn : l.length ≤ 1000)
  (hf : ∀ (x : Ln), x ∈ l → ∀ W : World, Below w.heap.size w W → Calls Tryz.prog g ((#[agN x] : Array Value) ++ cb) W fun e w' => e = .returned (.bool (p x)) ∧ Below W.heap.size W w') :
  Calls Tryz.prog 30 #[.slice pp l.length cap, .func (.func g) #[] cb] w fun e w' => ((e = .returned (.int .i64 (-1)) ∧ ∀ (j : Nat) (y : Ln), l[j]? = some y → p y = false) ∨ ∃ (k : Nat) (x : Ln), l[k]? = some x ∧ p x = true ∧ (∀ (j : Nat) (y : Ln), j < k → l[j]? = some y → p y = false) ∧ e = .returned (.int .i64 (k : Int))) ∧ Below w.heap.size w w' := by
 have HE : Hid (∀ (W : World) (k : Nat) (x : Ln), Below w.heap.size w W → l[k]? = some x → ∃ bq off, pp = some ⟨bq, off, none⟩ ∧ LineAt W bq (off + k * 5) x) := fun W k x hb hx => h.line hb hx
 have HF : Hid (∀ (x : Ln), x ∈ l → ∀ W : World, Below w.heap.size w W → Calls Tryz.prog g ((#[agN x] : Array Value) ++ cb) W fun e w' => e = .returned (.bool (p x)) ∧ Below W.heap.size W w') := hf
 obtain ⟨ln, hln⟩ : ∃ ln, l.length = ln := ⟨_, rfl⟩
 have HN : Hid (ln = l.length) := hln.symm
 rw [hln] at hn ⊢
 clear h hf hln
 go_enter Tryz.func30, Tryz.ntmps30
 go_wp2
 go_loopw [5, 8] (fun _ vi wr => ∃ k : Nat, k ≤ ln ∧ vi = .int .i64 k ∧ Below w.heap.size w wr ∧ ∀ (j : Nat) (y : Ln), j < k → l[j]? = some y → p y = false) (fun _ vi _ => ln - (RowKit.intOf vi).toNat)
 case atStart => exact ⟨0, Nat.zero_le _, rfl, Below.refl _ _, fun j y hj => absurd hj (Nat.not_lt_zero _)⟩
 case round =>
  obtain ⟨k, hk, rfl, hb, hno⟩ := hrel
  have HB : Hid (Below w.heap.size w wr) := hb
  have HS : Hid (∀ (j : Nat) (y : Ln), j < k → l[j]? = some y → p y = false) := hno
  clear hno
  by_cases hlt : k < ln
  ·obtain ⟨x, hx⟩ : ∃ x, l[k]? = some x := ⟨_, List.getElem?_eq_getElem (by rw [← HN.out]; exact hlt)⟩
   have HX : Hid (l[k]? = some x) := hx
   obtain ⟨bq, off, rfl, c0, c1, c2, c3, c4⟩ := HE.out wr k x hb hx
   have hC := HF.out x (List.mem_of_getElem? hx) wr hb
   have HS1 : Hid (p x = false → ∀ (j : Nat) (y : Ln), j < k + 1 → l[j]? = some y → p y = false) := fun hq j y hj hy => by
    rcases Nat.lt_or_ge j k with q | q
    ·exact HS.out j y q hy
    ·obtain rfl : j = k := by omega
     rw [HX.out] at hy
     cases hy
     exact hq
   have hltz : (k : Int) < (ln : Int) := by omega
   clear hx hb
   cases hq : p x with
   | true =>
    rw [hq] at hC
    have HQ : Hid (p x = true) := hq
    have HC : Hid (Calls Tryz.prog g ((#[agN x] : Array Value) ++ cb) wr _) := hC
    clear hq hC
    obtain ⟨x', hx'⟩ : ∃ x', x = x' := ⟨_, rfl⟩
    obtain ⟨⟨xz, xr, xb⟩, xl, xn⟩ := x
    simp only at c0 c1 c2 c3 c4
    unfold agN at HC
    go_wp2_with (go_at_fn g; refine HC.out.mono ?_; rintro r w2 ⟨rfl, hb2⟩; have HB2 : Hid (Below w.heap.size w w2) := HB.out.trans (hb2.mono HB.out.size); clear hb2)
    go_ret
    exact ⟨Or.inr ⟨k, _, HX.out, HQ.out, HS.out, rfl⟩, HB2.out⟩
   | false =>
    rw [hq] at hC
    have HQ : Hid (p x = false) := hq
    have HC : Hid (Calls Tryz.prog g ((#[agN x] : Array Value) ++ cb) wr _) := hC
    clear hq hC
    obtain ⟨⟨xz, xr, xb⟩, xl, xn⟩ := x
    simp only at c0 c1 c2 c3 c4
    unfold agN at HC
    go_wp2_with (go_at_fn g; refine HC.out.mono ?_; rintro r w2 ⟨rfl, hb2⟩; have HB2 : Hid (Below w.heap.size w w2) := HB.out.trans (hb2.mono HB.out.size); clear hb2)
    go_roundw
    case rel => exact ⟨k + 1, by omega, by go_num, HB2.out, HS1.out HQ.out⟩
    case measure => simp [RowKit.intOf]; omega
  ·have HA : Hid (∀ (j : Nat) (y : Ln), l[j]? = some y → p y = false) := fun j y hy => HS.out j y (by have := (List.getElem?_eq_some_iff.1 hy).1; rw [← HN.out] at this; omega) hy
   go_wp2
   go_ret
   exact ⟨Or.inl ⟨rfl, HA.out⟩, HB.out⟩
theorem lct_any (g : Nat) (cb : Array Value) (p : Ln → Bool) (eg : ∀ args w, (callFunc g args).run Tryz.prog w = .ok (.enter g args) w) (pp : Option Addr) (l : List Ln) (cap : Nat) (w : World) (h : ShIn w pp l) (hn : l.length ≤ 1000)
  (hf : ∀ (x : Ln), x ∈ l → ∀ W : World, Below w.heap.size w W → Calls Tryz.prog g ((#[agN x] : Array Value) ++ cb) W fun e w' => e = .returned (.bool (p x)) ∧ Below W.heap.size W w') :
  Calls Tryz.prog 78 #[.slice pp l.length cap, .func (.func g) #[] cb] w fun e w' => e = .returned (.bool (l.any p)) ∧ Below w.heap.size w w' := by
 have hI : Calls Tryz.prog 30 #[.slice pp l.length cap, .func (.func g) #[] cb] w fun e w' => (∃ n : Int, e = .returned (.int .i64 n) ∧ l.any p = decide (0 ≤ n)) ∧ Below w.heap.size w w' := (lix_any g cb p eg pp l cap w h hn hf).mono fun e w' ⟨h1, h2⟩ => by
  refine ⟨?_, h2⟩
  rcases h1 with ⟨rfl, h3⟩ | ⟨k, x, hx, hp, _, rfl⟩
  ·refine ⟨-1, rfl, ?_⟩
   rw [decide_eq_false (by omega), List.any_eq_false]
   intro y hy
   obtain ⟨j, hj⟩ := List.getElem?_of_mem hy
   rw [h3 j y hj]; decide
  ·refine ⟨k, rfl, ?_⟩
   rw [decide_eq_true (by omega)]
   exact List.any_eq_true.2 ⟨x, List.mem_of_getElem? hx, hp⟩
 have HI : Hid (Calls Tryz.prog _ _ _ _) := hI
 generalize l.length = ln at *
 clear h hn hf hI
 go_enter Tryz.func78, Tryz.ntmps78
 go_wp2_with (go_at_call 30; refine HI.out.mono ?_; rintro r w2 ⟨⟨n, rfl, hd⟩, hb2⟩; have HD : Hid (l.any p = decide (0 ≤ n)) := hd; have HB2 : Hid (Below w.heap.size w w2) := hb2; clear hb2 hd)
 go_ret
 exact ⟨by rw [HD.out]; rfl, HB2.out⟩
theorem ownS_cases (x : Ln) : (ownS x = 0 ∧ placeErr x.1 = 0 ∧ isName x.2.1.data.toList = true ∧ 0 ≤ x.2.2 ∧ x.2.2 ≤ 1099511627776) ∨ (placeErr x.1 ≠ 0 ∧ ownS x = placeErr x.1) ∨ (placeErr x.1 = 0 ∧ isName x.2.1.data.toList = false ∧ ownS x = 5) ∨ (placeErr x.1 = 0 ∧ isName x.2.1.data.toList = true ∧ x.2.2 < 0 ∧ ownS x = 2) ∨ (placeErr x.1 = 0 ∧ isName x.2.1.data.toList = true ∧ 0 ≤ x.2.2 ∧ 1099511627776 < x.2.2 ∧ ownS x = 2) := by
 unfold ownS
 by_cases h1 : placeErr x.1 = 0
 ·rw [if_pos h1]
  cases h2 : isName x.2.1.data.toList with
  | false => exact Or.inr (Or.inr (Or.inl ⟨h1, rfl, rfl⟩))
  | true =>
   by_cases h3 : x.2.2 < 0
   ·exact Or.inr (Or.inr (Or.inr (Or.inl ⟨h1, rfl, h3, by rw [if_pos rfl, if_pos (Or.inl h3)]⟩)))
   ·by_cases h4 : 1099511627776 < x.2.2
    ·exact Or.inr (Or.inr (Or.inr (Or.inr ⟨h1, rfl, by omega, h4, by rw [if_pos rfl, if_pos (Or.inr h4)]⟩)))
    ·exact Or.inl ⟨by rw [if_pos rfl, if_neg (by omega)], h1, rfl, by omega, by omega⟩
 ·rw [if_neg h1]
  exact Or.inr (Or.inl ⟨h1, rfl⟩)
end Go.Proofs.YtppodkkefegbkaaGreatDoor
namespace Go.Proofs.YtppodkkefegbkaaGreatDoor
open Go.Lib Go.Sort
abbrev Sh := Nat × Int
def cmpSh (x y : Sh) : Int := compareInt y.2 x.2
def shLt (x y : Sh) : Bool := decide (cmpSh x y < 0)
theorem shLt_eq (x y : Sh) : shLt x y = decide (y.2 < x.2) := by
 unfold shLt cmpSh compareInt
 by_cases h1 : y.2 < x.2
 ·simp [h1]
 ·by_cases h2 : x.2 < y.2 <;> simp [h1, h2]
def rkLt (x y : Sh) : Bool := decide (y.2 < x.2) || (decide (x.2 = y.2) && decide (x.1 < y.1))
theorem rkLt_iff (x y : Sh) : rkLt x y = true ↔ y.2 < x.2 ∨ (x.2 = y.2 ∧ x.1 < y.1) := by
 unfold rkLt
 simp only [Bool.or_eq_true, Bool.and_eq_true, decide_eq_true_eq]
theorem rkLt_no (x y : Sh) : rkLt x y = false ↔ ¬ (y.2 < x.2 ∨ (x.2 = y.2 ∧ x.1 < y.1)) := by
 rw [← rkLt_iff, Bool.not_eq_true]
theorem swoSh : SWO shLt where
 irrefl x := by rw [shLt_eq]; exact decide_eq_false (Int.lt_irrefl _)
 trans x y z h1 h2 := by
  rw [shLt_eq] at *
  have h1 := of_decide_eq_true h1
  have h2 := of_decide_eq_true h2
  exact decide_eq_true (Int.lt_trans h2 h1)
 ntrans x y z h1 h2 := by
  rw [shLt_eq] at *
  have h1 := of_decide_eq_false h1
  have h2 := of_decide_eq_false h2
  exact decide_eq_false (by omega)
theorem swoRk : SWO rkLt where
 irrefl x := by rw [rkLt_no]; omega
 trans x y z h1 h2 := by rw [rkLt_iff] at *; omega
 ntrans x y z h1 h2 := by rw [rkLt_no] at *; omega
structure ShOf (m : List Gs) (d : Array Sh) : Prop where
 size : d.size = m.length
 at_ : ∀ (i : Nat) (g : Gs), m[i]? = some g → d[i]! = (i, outG g)
theorem ShOf.get {m : List Gs} {d : Array Sh} (h : ShOf m d) {i : Nat} (hi : i < m.length) : ∃ g, m[i]? = some g ∧ d[i]! = (i, outG g) :=
 ⟨_, List.getElem?_eq_getElem hi, h.at_ i _ (List.getElem?_eq_getElem hi)⟩
structure RkOf (m : List Gs) (d' : Array Sh) : Prop where
 size : d'.size = m.length
 from_ : ∀ p, p < m.length → ∃ i g, m[i]? = some g ∧ d'[p]! = (i, outG g)
 all : ∀ i, i < m.length → ∃ p, p < m.length ∧ (d'[p]!).1 = i
 perm : ∃ d : Array Sh, ShOf m d ∧ ((List.range m.length).map (fun i => d'[i]!)).Perm ((List.range m.length).map (fun i => d[i]!))
 lt : ∀ p q, p < q → q < m.length → rkLt d'[p]! d'[q]! = true
theorem extract_all {α : Type} [Inhabited α] (d : Array α) {n : Nat} (hn : n ≤ d.size) : (d.extract 0 n).toList = (List.range n).map fun i => d[i]! := by
 rw [extract_toList d 0 n hn, Nat.sub_zero, List.range_eq_range']
theorem rkOf {m : List Gs} {d d' : Array Sh} (h : ShOf m d) (hs : StablyS shLt m.length d d') : RkOf m d' := by
 obtain ⟨hP, hT⟩ := hs
 have hR := hT rkLt swoRk fun p q h1 h2 => by
  obtain ⟨gp, hp, e1⟩ := h.get (Nat.lt_trans h1 h2)
  obtain ⟨gq, hq, e2⟩ := h.get h2
  rw [e1, e2, shLt_eq]
  unfold rkLt
  simp only
  rw [decide_eq_false (Nat.not_lt.2 (Nat.le_of_lt h1)), Bool.and_false, Bool.or_false]
 have hz : d'.size = m.length := by rw [hP.1, h.size]
 have hperm : ((List.range m.length).map (fun i => d'[i]!)).Perm ((List.range m.length).map (fun i => d[i]!)) := by
  have h3 := hP.2.2
  rw [extract_all d' (Nat.le_of_eq hz.symm), extract_all d (Nat.le_of_eq h.size.symm)] at h3
  exact h3
 have hne : ∀ p q, p < q → q < m.length → (d'[p]!).1 ≠ (d'[q]!).1 := by
  have hd : ((List.range m.length).map (fun i => d[i]!)).Pairwise (fun x y => x.1 ≠ y.1) := by
   rw [List.pairwise_map, List.pairwise_iff_getElem]
   intro i j hi hj hij
   rw [List.length_range] at hi hj
   rw [List.getElem_range, List.getElem_range]
   obtain ⟨_, _, e1⟩ := h.get hi
   obtain ⟨_, _, e2⟩ := h.get hj
   rw [e1, e2]
   exact Nat.ne_of_lt hij
  have hd' := (hperm.pairwise_iff (R := fun (x y : Sh) => x.1 ≠ y.1) (fun h e => h e.symm)).2 hd
  rw [List.pairwise_map, List.pairwise_iff_getElem] at hd'
  intro p q h1 h2
  have := hd' p q (by rw [List.length_range]; omega) (by rw [List.length_range]; omega) h1
  rw [List.getElem_range, List.getElem_range] at this
  exact this
 refine ⟨hz, fun p hp => ?_, fun i hi => ?_, ⟨d, h, hperm⟩, fun p q h1 h2 => ?_⟩
 ·exact permIn_all d d' 0 m.length (fun x => ∃ i g, m[i]? = some g ∧ x = (i, outG g)) (Nat.le_of_eq h.size.symm) hP (fun i _ hi => by
   obtain ⟨g, h1, h2⟩ := h.get hi
   exact ⟨i, g, h1, h2⟩) p (Nat.zero_le _) hp
 ·obtain ⟨g, _, e1⟩ := h.get hi
  have hm : d[i]! ∈ (List.range m.length).map (fun i => d[i]!) := List.mem_map.2 ⟨i, List.mem_range.2 hi, rfl⟩
  obtain ⟨p, hp, e2⟩ := List.mem_map.1 (hperm.symm.subset hm)
  exact ⟨p, List.mem_range.1 hp, by rw [e2, e1]⟩
 ·have h3 := hR p q (Nat.zero_le _) h1 h2
  rw [rkLt_no] at h3
  rw [rkLt_iff]
  have := hne p q h1 h2
  omega
theorem sumI_perm {l l' : List Int} (h : l.Perm l') : l.sum = l'.sum := by
 induction h with
 | nil => rfl
 | cons x _ ih => rw [List.sum_cons, List.sum_cons, ih]
 | swap x y l => rw [List.sum_cons, List.sum_cons, List.sum_cons, List.sum_cons]; omega
 | trans _ _ h1 h2 => rw [h1, h2]
def sumA (d : Array Sh) : Nat → Int
 | 0 => 0
 | k + 1 => sumA d k + (d[k]!).2
def selA (c : Sh → Bool) (d : Array Sh) : Nat → Int
 | 0 => 0
 | k + 1 => if c d[k]! then selA c d k + (d[k]!).2 else selA c d k
theorem selA_eq (c : Sh → Bool) (d : Array Sh) : ∀ k, selA c d k = ((((List.range k).map (fun i => d[i]!)).filter c).map (fun x => x.2)).sum
 | 0 => rfl
 | k + 1 => by
  rw [List.range_succ, List.map_append, List.filter_append, List.map_append, List.sum_append, ← selA_eq c d k]
  show (if c d[k]! then _ else _) = _
  cases h : c d[k]! with
  | true => simp [h]
  | false => simp [h]
theorem selA_perm (c : Sh → Bool) {d d' : Array Sh} {n : Nat} (h : ((List.range n).map (fun i => d'[i]!)).Perm ((List.range n).map (fun i => d[i]!))) : selA c d' n = selA c d n := by
 rw [selA_eq, selA_eq]
 exact sumI_perm ((h.filter c).map _)
theorem selA_front {m : List Gs} {d : Array Sh} (h : ShOf m d) (n : Int) (i : Nat) : ∀ k, k ≤ m.length → selA (fun x => rkLt x (i, n)) d k = frontG m n i k
 | 0, _ => rfl
 | k + 1, hk => by
  obtain ⟨g, hg, e⟩ := h.get (Nat.lt_of_succ_le hk)
  rw [frontG_succ hg, ← selA_front h n i k (Nat.le_of_succ_le hk)]
  show (if rkLt d[k]! (i, n) = true then _ + (d[k]!).2 else _) = _
  rw [e]
  have e9 : rkLt (k, outG g) (i, n) = rankG n i k g := rfl
  rw [e9]
theorem selA_ranked {m : List Gs} {d' : Array Sh} (h : RkOf m d') {p : Nat} (hp : p < m.length) : ∀ k, k ≤ m.length → selA (fun x => rkLt x d'[p]!) d' k = sumA d' (min k p)
 | 0, _ => by rw [Nat.zero_min]; rfl
 | k + 1, hk => by
  have ih := selA_ranked h hp k (Nat.le_of_succ_le hk)
  show (if rkLt d'[k]! d'[p]! = true then _ + _ else _) = _
  rw [ih]
  rcases Nat.lt_trichotomy k p with q | q | q
  ·rw [h.lt k p q hp, if_pos rfl, Nat.min_eq_left (Nat.le_of_lt q), Nat.min_eq_left (Nat.succ_le_of_lt q)]
   rfl
  ·subst q
   rw [swoRk.irrefl, if_neg Bool.false_ne_true, Nat.min_self, Nat.min_eq_right (Nat.le_succ _)]
  ·rw [swoRk.asymmA (h.lt p k q (Nat.lt_of_succ_le hk)), if_neg Bool.false_ne_true, Nat.min_eq_right (Nat.le_of_lt q), Nat.min_eq_right (by omega)]
theorem RkOf.front {m : List Gs} {d' : Array Sh} (h : RkOf m d') {p i : Nat} {g : Gs} (hp : p < m.length) (e : d'[p]! = (i, outG g)) : sumA d' p = frontG m (outG g) i m.length := by
 obtain ⟨d, hd, hperm⟩ := h.perm
 have h1 := selA_ranked h hp m.length (Nat.le_refl _)
 rw [Nat.min_eq_right (Nat.le_of_lt hp), e, selA_perm _ hperm, selA_front hd _ _ _ (Nat.le_refl _)] at h1
 exact h1.symm
theorem classG_all {all ahead : Int} (h : 0 ≤ ahead) (h0 : 0 ≤ all) : classG all ahead = if ahead * 100 < all * 80 then clA else if ahead * 100 < all * 95 then clB else clC := by
 unfold classG
 by_cases h1 : ahead * 100 < all * 80
 ·rw [if_pos h1, if_pos (by omega)]
 ·rw [if_neg h1, if_neg (by omega)]
  by_cases h2 : ahead * 100 < all * 95
  ·rw [if_pos h2, if_pos (by omega)]
  ·rw [if_neg h2, if_neg (by omega)]
end Go.Proofs.YtppodkkefegbkaaGreatDoor
namespace Go.Proofs.YtppodkkefegbkaaGreatDoor
open Go.Shelf Go.RowKit Go.Lib Go.Sort
def encSh (x : Sh) : List Value := [.int .i64 (x.1 : Int), .int .i64 x.2]
abbrev agSh (x : Sh) : Value := .agg #[.int .i64 (x.1 : Int), .int .i64 x.2]
theorem shcompare_any (x y : Sh) (w : World) : Calls Tryz.prog 48 #[agSh x, agSh y] w fun e w' => e = .returned (.int .i64 (cmpSh x y)) ∧ ∃ q os, w' = grow (w.drewN q) os := by
 obtain ⟨i, a⟩ := x
 obtain ⟨j, b⟩ := y
 unfold cmpSh agSh
 simp only
 have h1 := fun w => cmpI_any b a w
 generalize compareInt b a = c at *
 go_enter Tryz.func48, Tryz.ntmps48
 go_wp2_with (go_at_call 49; refine (h1 _).mono ?_; rintro e w1 ⟨rfl, hw⟩; have hw' := hw.symm; subst hw')
 go_ret
 exact ⟨rfl, 0, #[.cells #[.int .i64 (i : Int), .int .i64 a] 114, .cells #[.int .i64 (j : Int), .int .i64 b] 114], by rw [alloc_eq_grow, alloc_eq_grow]; rfl⟩
theorem encSh_len (x : Sh) : (encSh x).length = 2 := rfl
theorem encSh_one (x : Sh) : ∀ v ∈ encSh x, v.oneCell' = true := by
 intro v hv; simp [encSh] at hv; rcases hv with rfl | rfl <;> rfl
theorem cmpLaysSh (blk off size : Nat) (w : World) : CmpLays Tryz.prog 48 #[] encSh 2 cmpSh blk off size w := fun _ _ _ _ x y => shcompare_any x y _
theorem stSh : StC Tryz.prog 2 where
 mixed := by kernel_rfl
 fS := Tryz.func134
 fR := Tryz.func122
 fM := Tryz.func110
 t0 := Tryz.underlying0
 a0 := Tryz.isAgg0
 z0 := Tryz.sizeOf0
 v0 := Tryz.zeroValue0
 t3 := Tryz.underlying3
 a3 := Tryz.isAgg3
 z3 := Tryz.sizeOf3
 v3 := Tryz.zeroValue3
 t4 := Tryz.underlying4
 a4 := Tryz.isAgg4
 z4 := Tryz.sizeOf4
 v4 := Tryz.zeroValue4
 tU := Tryz.underlying106
 aU := Tryz.isAgg106
 zU := Tryz.sizeOf106
 vU := Tryz.zeroValue106
 tL := Tryz.underlying109
 aL := Tryz.isAgg109
 zL := Tryz.sizeOf109
 vL := Tryz.zeroValue109
 tF := Tryz.underlying116
 aF := Tryz.isAgg116
 zF := Tryz.sizeOf116
 vF := Tryz.zeroValue116
 aE := Tryz.isAgg114
 zE := Tryz.sizeOf114
theorem insSh (blk off cap : Nat) (d0 : Array Sh) (w0 : World) (R : RowK encSh 2 w0 blk off d0) (hsz : d0.size < 1000) (a b : Nat) (d : Array Sh) (w : World) (hab : a ≤ b) (hb : b ≤ d0.size) (hZ : SZC encSh 2 w0 blk off d0.size d w) :
  Calls Tryz.prog 109 #[.slice (some ⟨blk, off, none⟩) d0.size cap, .int .i64 a, .int .i64 b, .func (.func 48) #[] #[]] w fun e w' => e = .returned (.tuple #[]) ∧ SZC encSh 2 w0 blk off d0.size (insertionSort shLt d a b) w' := by
 have eg : ∀ args w, (callFunc 48 args).run Tryz.prog w = .ok (.enter 48 args) w := enters_of Tryz.func48 (by kernel_rfl) rfl
 have hs := hZ.1
 have h := AnyQ.insertionSortCmpFunc Tryz.laysInsSh 2 Tryz.isAgg114 Tryz.sizeOf114 encSh encSh_len encSh_one cmpSh 48 #[] blk off cap a b d w eg (cmpLaysSh blk off d.size w) (hZ.2.holds R.hblk R.hH hs) (hZ.2.lt R.hblk) hab (by omega) (by omega)
 rw [hs] at h
 refine h.mono fun e w' ⟨he, n, os, hw⟩ => ⟨he, ?_⟩
 have hp : (insertionSort shLt d a b).size = d.size := (insertionSort_holds swoSh d a b hab (by omega)).1.1
 refine ⟨by rw [hp]; exact hs, ?_⟩
 rw [hw]
 exact hZ.2.on R.hblk n _ os hp
theorem symSh (blk off cap : Nat) (d0 : Array Sh) (w0 : World) (R : RowK encSh 2 w0 blk off d0) (hsz : d0.size < 1000) (a m b : Nat) (d : Array Sh) (w : World) (ham : a < m) (hmb : m < b) (hb : b ≤ d0.size) (hZ : SZC encSh 2 w0 blk off d0.size d w) :
  Calls Tryz.prog 110 #[.slice (some ⟨blk, off, none⟩) d0.size cap, .int .i64 a, .int .i64 m, .int .i64 b, .func (.func 48) #[] #[]] w fun e w' => e = .returned (.tuple #[]) ∧ ∃ d', MergedS shLt a m b d d' ∧ SZC encSh 2 w0 blk off d0.size d' w' := by
 have eg : ∀ args w, (callFunc 48 args).run Tryz.prog w = .ok (.enter 48 args) w := enters_of Tryz.func48 (by kernel_rfl) rfl
 exact sym_anyC stSh encSh cmpSh 48 #[] swoSh blk off cap d0 w0 eg (cmpLaysSh blk off d0.size w0) R (by omega) (b - a + 1) a m b d w (by omega) ham hmb hb hZ
theorem stable_fewC (blk off cap : Nat) (d : Array Sh) (w : World) (R : RowK encSh 2 w blk off d) (hn : d.size < 20) :
  Calls Tryz.prog 80 #[.slice (some ⟨blk, off, none⟩) d.size cap, .int .i64 d.size, .func (.func 48) #[] #[]] w fun e w' => e = .returned (.tuple #[]) ∧ ∃ d', StablyS shLt d.size d d' ∧ SZC encSh 2 w blk off d.size d' w' := by
 have h0 : Calls Tryz.prog 109 #[.slice (some ⟨blk, off, none⟩) d.size cap, .int .i64 0, .int .i64 d.size, .func (.func 48) #[] #[]] w _ := insSh blk off cap d w R (by omega) 0 d.size d w (Nat.zero_le _) (Nat.le_refl _) ⟨rfl, SWK.start R.hH⟩
 have HS : Hid (StablyS shLt d.size d (insertionSort shLt d 0 d.size)) := stablyS_one swoSh (Nat.le_refl _)
 have H0 : Hid (Calls Tryz.prog _ _ _ _) := h0
 clear h0 R
 generalize insertionSort shLt d 0 d.size = d1 at *
 generalize d.size = n at *
 go_enter Tryz.func80, Tryz.ntmps80
 go_wp2
 refine wp_loop_rounds 1 ?_
 rw [rounds_succ]
 go_wp2_with (go_at_call 109; refine H0.out.mono ?_; rintro e w1 ⟨rfl, Z1⟩)
 refine wp_loop_rounds 1 ?_
 rw [rounds_succ]
 go_wp2
 go_end0
 exact ⟨rfl, d1, HS.out, Z1⟩
theorem stable_twentyC (blk off cap : Nat) (d : Array Sh) (w : World) (R : RowK encSh 2 w blk off d) (hn : d.size = 20) :
  Calls Tryz.prog 80 #[.slice (some ⟨blk, off, none⟩) 20 cap, .int .i64 20, .func (.func 48) #[] #[]] w fun e w' => e = .returned (.tuple #[]) ∧ ∃ d', StablyS shLt 20 d d' ∧ SZC encSh 2 w blk off 20 d' w' := by
 have i1 := fun a b d1 w1 h1 h2 => insSh blk off cap d w R (by omega) a b d1 w1 h1 h2
 rw [hn] at i1
 have h0 : Calls Tryz.prog 109 #[.slice (some ⟨blk, off, none⟩) 20 cap, .int .i64 0, .int .i64 20, .func (.func 48) #[] #[]] w _ := i1 0 20 d w (by decide) (by decide) ⟨hn, SWK.start R.hH⟩
 have h1 : ∀ d1 w1, SZC encSh 2 w blk off 20 d1 w1 → Calls Tryz.prog 109 #[.slice (some ⟨blk, off, none⟩) 20 cap, .int .i64 20, .int .i64 20, .func (.func 48) #[] #[]] w1 _ := fun d1 w1 h => i1 20 20 d1 w1 (by decide) (by decide) h
 have HS : Hid (StablyS shLt 20 d (insertionSort shLt d 0 20)) := stablyS_one swoSh (by omega)
 have H0 : Hid (Calls Tryz.prog _ _ _ _) := h0
 have H1 : Aside _ := h1
 clear h0 h1 i1 R
 generalize insertionSort shLt d 0 20 = d1 at *
 go_enter Tryz.func80, Tryz.ntmps80
 go_wp2
 refine wp_loop_rounds 2 ?_
 rw [rounds_succ]
 go_wp2_with (go_at_call_of 109 (Value.int .i64 0); refine H0.out.mono ?_; rintro e w1 ⟨rfl, Z1⟩)
 rw [rounds_succ]
 go_wp2_with (go_at_call 109; refine (H1.out _ _ Z1).mono ?_; rintro e w2 ⟨rfl, Z2⟩)
 refine wp_loop_rounds 1 ?_
 rw [rounds_succ]
 go_wp2
 go_end0
 rw [insS_none] at Z2
 exact ⟨rfl, d1, HS.out, Z2⟩
theorem stable_moreC (blk off cap : Nat) (d : Array Sh) (w : World) (R : RowK encSh 2 w blk off d) (hn : 20 < d.size) (hn' : d.size < 40) :
  Calls Tryz.prog 80 #[.slice (some ⟨blk, off, none⟩) d.size cap, .int .i64 d.size, .func (.func 48) #[] #[]] w fun e w' => e = .returned (.tuple #[]) ∧ ∃ d', StablyS shLt d.size d d' ∧ SZC encSh 2 w blk off d.size d' w' := by
 have h0 : Calls Tryz.prog 109 #[.slice (some ⟨blk, off, none⟩) d.size cap, .int .i64 0, .int .i64 20, .func (.func 48) #[] #[]] w _ := insSh blk off cap d w R (by omega) 0 20 d w (by decide) (by omega) ⟨rfl, SWK.start R.hH⟩
 have h1 : ∀ d1 w1, SZC encSh 2 w blk off d.size d1 w1 → Calls Tryz.prog 109 #[.slice (some ⟨blk, off, none⟩) d.size cap, .int .i64 20, .int .i64 d.size, .func (.func 48) #[] #[]] w1 _ := fun d1 w1 h => insSh blk off cap d w R (by omega) 20 d.size d1 w1 (by omega) (Nat.le_refl _) h
 have h2 : ∀ d1 w1, SZC encSh 2 w blk off d.size d1 w1 → Calls Tryz.prog 110 #[.slice (some ⟨blk, off, none⟩) d.size cap, .int .i64 0, .int .i64 20, .int .i64 d.size, .func (.func 48) #[] #[]] w1 _ := fun d1 w1 h => symSh blk off cap d w R (by omega) 0 20 d.size d1 w1 (by decide) hn (Nat.le_refl _) h
 have HS : Hid (∀ d', MergedS shLt 0 20 d.size (insertionSort shLt (insertionSort shLt d 0 20) 20 d.size) d' → StablyS shLt d.size d d') := fun d' h => stablyS_two swoSh (by omega) (Nat.le_refl _) h
 have H0 : Hid (Calls Tryz.prog _ _ _ _) := h0
 have H1 : Aside _ := h1
 have H2 : Aside _ := h2
 clear h0 h1 h2 R
 generalize insertionSort shLt d 0 20 = d1 at *
 generalize d.size = n at *
 go_enter Tryz.func80, Tryz.ntmps80
 go_wp2
 refine wp_loop_rounds 2 ?_
 rw [rounds_succ]
 go_wp2_with (go_at_call_of 109 (Value.int .i64 0); refine H0.out.mono ?_; rintro e w1 ⟨rfl, Z1⟩)
 rw [rounds_succ]
 go_wp2_with (go_at_call 109; refine (H1.out _ _ Z1).mono ?_; rintro e w2 ⟨rfl, Z2⟩)
 refine wp_loop_rounds 2 ?_
 rw [rounds_succ]
 go_wp2
 refine wp_loop_rounds 1 ?_
 rw [rounds_succ]
 go_wp2_with (go_at_call 110; refine (H2.out _ _ Z2).mono ?_; rintro e w3 ⟨rfl, d3, hm3, Z3⟩)
 rw [rounds_succ]
 go_wp2
 go_end0
 exact ⟨rfl, d3, HS.out d3 hm3, Z3⟩
theorem sortStable_anyC (blk off cap : Nat) (d : Array Sh) (w : World) (hH : HoldsK encSh 2 w blk off d) (hblk : blk < w.heap.size) (hn : d.size < 40) :
  Calls Tryz.prog 47 #[.slice (some ⟨blk, off, none⟩) d.size cap, .func (.func 48) #[] #[]] w fun e w' => e = .returned (.tuple #[]) ∧ ∃ d', StablyS shLt d.size d d' ∧ SZC encSh 2 w blk off d.size d' w' := by
 have R : RowK encSh 2 w blk off d := ⟨encSh_len, encSh_one, hH, hblk⟩
 have hs : Calls Tryz.prog 80 #[.slice (some ⟨blk, off, none⟩) d.size cap, .int .i64 d.size, .func (.func 48) #[] #[]] w fun e w' => e = .returned (.tuple #[]) ∧ ∃ d', StablyS shLt d.size d d' ∧ SZC encSh 2 w blk off d.size d' w' := by
  rcases Nat.lt_trichotomy d.size 20 with h | h | h
  ·exact stable_fewC blk off cap d w R h
  ·have := stable_twentyC blk off cap d w R h
   rw [h]; exact this
  ·exact stable_moreC blk off cap d w R h (by omega)
 have HS : Hid (Calls Tryz.prog _ _ _ _) := hs
 clear hs R hH hblk
 go_enter Tryz.func47, Tryz.ntmps47
 go_wp2_with (go_at_call 80; refine HS.out.mono ?_; rintro e w1 ⟨rfl, d1, h1, Z1⟩)
 go_end0
 exact ⟨rfl, d1, h1, Z1⟩
end Go.Proofs.YtppodkkefegbkaaGreatDoor
