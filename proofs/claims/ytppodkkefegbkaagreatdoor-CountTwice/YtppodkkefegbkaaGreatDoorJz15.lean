/-
 Plain mathematics of counts: the first error of many; a sheet's errors; what a sheet tells of lines that are there; classes; is a count due. No program stands h
-/
import Derived.Test.YtppodkkefegbkaaGreatDoorBMath
import Derived.Test.YtppodkkefegbkaaGreatDoorJz7
import Derived.Test.YtppodkkefegbkaaGreatDoorJz14
import Derived.Test.YtppodkkefegbkaaGreatDoorJz3
import Derived.Laws.StructEq
import Derived.BigQuiet
import Derived.Test.YtppodkkefegbkaaGreatDoorJz11
import Derived.Deep.CutBlock
import Derived.Deep.CutRange
set_option maxRecDepth 100000
set_option maxHeartbeats 16000000
namespace Go.Proofs.YtppodkkefegbkaaGreatDoor
open Go.Lib Go.Sort
theorem first_or (f : Nat → Nat) : ∀ n, (∀ j, j < n → f j = 0) ∨ ∃ k, k < n ∧ (∀ j, j < k → f j = 0) ∧ f k ≠ 0
 | 0 => Or.inl fun j hj => absurd hj (Nat.not_lt_zero _)
 | n + 1 => by
  rcases first_or f n with h | ⟨k, hk, h1, h2⟩
  ·by_cases h9 : f n = 0
   ·exact Or.inl fun j hj => by
     rcases Nat.lt_or_ge j n with q | q
     ·exact h j q
     ·obtain rfl : j = n := by omega
      exact h9
   ·exact Or.inr ⟨n, Nat.lt_succ_self _, h, h9⟩
  ·exact Or.inr ⟨k, by omega, h1, h2⟩
theorem first_same {f : Nat → Nat} {k k' : Nat} (h1 : ∀ j, j < k → f j = 0) (h2 : f k ≠ 0) (h1' : ∀ j, j < k' → f j = 0) (h2' : f k' ≠ 0) : k = k' := by
 rcases Nat.lt_trichotomy k k' with h | h | h
 ·exact absurd (h1' k h) h2
 ·exact h
 ·exact absurd (h1 k' h) h2'
def ownS (x : Ln) : Nat := if placeErr x.1 = 0 then (if isName x.2.1.data.toList then (if x.2.2 < 0 ∨ 1099511627776 < x.2.2 then 2 else 0) else 5) else placeErr x.1
def standsS (l : List Ln) (x : Ln) : Bool := l.any fun y => decide (y.1 = x.1 ∧ y.2.1 = x.2.1)
def sheetE (l : List Ln) (i : Nat) : Nat := match l[i]? with
 | some x => if ownS x = 0 then (if standsS (l.take i) x then 7 else 0) else ownS x
 | none => 0
theorem sheetE_eq {l : List Ln} {i : Nat} {x : Ln} (h : l[i]? = some x) : sheetE l i = if ownS x = 0 then (if standsS (l.take i) x then 7 else 0) else ownS x := by
 unfold sheetE
 rw [h]
def noneS (b : Bk) (l : List Ln) (i : Nat) : Nat := match l[i]? with
 | some x => if findI nameL b.2.1 x.2.1 < 0 then 6 else 0
 | none => 0
theorem noneS_eq {b : Bk} {l : List Ln} {i : Nat} {x : Ln} (h : l[i]? = some x) : noneS b l i = if findI nameL b.2.1 x.2.1 < 0 then 6 else 0 := by
 unfold noneS
 rw [h]
def moreEn (x : Ln) (n : Int) : En := (kMore, (⟨#[]⟩, 0), (x.2.1, ⟨#[]⟩, 0, 0), (⟨#[]⟩, 0, 0), x.1, n)
def lessEn (x : Ln) (n : Int) : En := (kLess, (⟨#[]⟩, 0), (x.2.1, ⟨#[]⟩, 0, 0), x.1, (⟨#[]⟩, 0, 0), n)
def diffOne (m : List Ln) (x : Ln) : List En := if atL m (x.1, x.2.1) < x.2.2 then [moreEn x (x.2.2 - atL m (x.1, x.2.1))] else if x.2.2 < atL m (x.1, x.2.1) then [lessEn x (atL m (x.1, x.2.1) - x.2.2)] else []
def diffL (m : List Ln) (l : List Ln) : List En := l.flatMap (diffOne m)
theorem diffL_succ {m l : List Ln} {k : Nat} {x : Ln} (h : l[k]? = some x) : diffL m (l.take (k + 1)) = diffL m (l.take k) ++ diffOne m x := by
 unfold diffL
 rw [List.take_add_one, h, List.flatMap_append]
 simp
theorem diffOne_len (m : List Ln) (x : Ln) : (diffOne m x).length ≤ 1 := by
 unfold diffOne
 repeat' split
 all_goals simp
theorem diffL_len (m : List Ln) : ∀ l : List Ln, (diffL m l).length ≤ l.length
 | [] => Nat.le_refl _
 | x :: l => by
  have h1 := diffOne_len m x
  have h2 := diffL_len m l
  unfold diffL at *
  rw [List.flatMap_cons, List.length_append, List.length_cons]
  omega
abbrev clA : ByteArray := ⟨#[97]⟩
abbrev clB : ByteArray := ⟨#[98]⟩
abbrev clC : ByteArray := ⟨#[99]⟩
def daysC (c : ByteArray) : Int := if c = clA then 30 else if c = clB then 90 else if c = clC then 180 else -1
def dueC (c : ByteArray) (last day : Int) : Bool := if daysC c < 0 ∨ day < last then false else decide (last ≤ IntKind.i64.wrap (day - daysC c)) && decide (IntKind.i64.wrap (day - daysC c) ≤ day)
theorem doB_took {b : Bk} {e : En} (hw : WfB b) (hE : (doB b e).2 = 0) (h1 : e.1 ≠ kGoods) (h2 : e.1 ≠ kLot) : stkE e b.2.2 = 0 ∧ (doB b e).1.2.2 = stkL e b.2.2 ∧ (doB b e).1.2.1.map nameL = b.2.1.map nameL := by
 by_cases he : entErr e = 0
 ·rcases findI_cases nameL b.2.1 e.2.2.1.1 with ⟨h9, _⟩ | ⟨k, l, hkL, hl, hid⟩
  ·rw [doB_none he h1 h2 (by omega)] at hE
   exact absurd hE (by show ¬ (6 : Nat) = 0; decide)
  ·obtain ⟨g0, hg0, hg1⟩ := hw.lots l (List.mem_of_getElem? hl)
   rcases findI_cases nameG b.1 l.1.2.1 with ⟨_, h8⟩ | ⟨i, g, hiG, hg, _⟩
   ·exact absurd hg1 (h8 g0 hg0)
   ·rw [doB_at he h1 h2 hkL hl hiG hg] at hE ⊢
    by_cases hp : pieceE b e l g = 0
    ·rw [if_pos hp]
     refine ⟨?_, rfl, ?_⟩
     ·unfold pieceE at hp
      by_cases h9 : stkE e b.2.2 = 0
      ·exact h9
      ·rw [if_neg h9] at hp; exact absurd hp h9
     ·unfold pieceB
      exact set_map hl rfl
    ·rw [if_neg hp] at hE
     exact absurd hE hp
 ·rw [doB_err he] at hE
  exact absurd hE he
theorem more_at {b : Bk} {x : Ln} {n : Int} (hw : WfB b) (hE : (doB b (moreEn x n)).2 = 0) : (∀ p, atL (doB b (moreEn x n)).1.2.2 p = if p = (x.1, x.2.1) then atL b.2.2 p + n else atL b.2.2 p) ∧ (doB b (moreEn x n)).1.2.1.map nameL = b.2.1.map nameL := by
 obtain ⟨h1, h2, h3⟩ := doB_took hw hE (by show kMore ≠ kGoods; decide) (by show kMore ≠ kLot; decide)
 refine ⟨fun p => ?_, h3⟩
 have e1 : stkL (moreEn x n) b.2.2 = putL b.2.2 x.1 x.2.1 n := rfl
 have e2 : stkE (moreEn x n) b.2.2 = putE b.2.2 x.1 x.2.1 n := rfl
 rw [e2] at h1
 rw [h2, e1]
 unfold putL
 rw [if_pos h1, withL_atL]
 by_cases hp : p = (x.1, x.2.1)
 ·rw [if_pos hp, if_pos hp, hp]
 ·rw [if_neg hp, if_neg hp]
theorem less_at {b : Bk} {x : Ln} {n : Int} (hw : WfB b) (hE : (doB b (lessEn x n)).2 = 0) : (∀ p, atL (doB b (lessEn x n)).1.2.2 p = if p = (x.1, x.2.1) then atL b.2.2 p - n else atL b.2.2 p) ∧ (doB b (lessEn x n)).1.2.1.map nameL = b.2.1.map nameL := by
 obtain ⟨h1, h2, h3⟩ := doB_took hw hE (by show kLess ≠ kGoods; decide) (by show kLess ≠ kLot; decide)
 refine ⟨fun p => ?_, h3⟩
 have e1 : stkL (lessEn x n) b.2.2 = takeL b.2.2 (x.1, x.2.1) n := rfl
 have e2 : stkE (lessEn x n) b.2.2 = takeE b.2.2 (x.1, x.2.1) n := rfl
 rw [e2] at h1
 rw [h2, e1]
 unfold takeL
 rw [if_pos h1, withL_atL]
 by_cases hp : p = (x.1, x.2.1)
 ·rw [if_pos hp, if_pos hp, hp]
 ·rw [if_neg hp, if_neg hp]
def seqB (b : Bk) (es : List En) : Bk := es.foldl (fun b e => (doB b e).1) b
def SeqOk (b : Bk) (es : List En) : Prop := ∀ i e, es[i]? = some e → (doB (seqB b (es.take i)) e).2 = 0
theorem seqB_cons (b : Bk) (e : En) (es : List En) : seqB b (e :: es) = seqB (doB b e).1 es := rfl
theorem seqB_succ {b : Bk} {es : List En} {i : Nat} {e : En} (h : es[i]? = some e) : seqB b (es.take (i + 1)) = (doB (seqB b (es.take i)) e).1 := by
 unfold seqB
 rw [List.take_add_one, h, List.foldl_append]
 rfl
theorem SeqOk.head {b : Bk} {e : En} {es : List En} (h : SeqOk b (e :: es)) : (doB b e).2 = 0 := h 0 e rfl
theorem SeqOk.tail {b : Bk} {e : En} {es : List En} (h : SeqOk b (e :: es)) : SeqOk (doB b e).1 es := fun i e' he' => by
 have := h (i + 1) e' (by simpa using he')
 rw [List.take_succ_cons, seqB_cons] at this
 exact this
theorem seq_diff (m0 : List Ln) : ∀ (l : List Ln) (b : Bk), (l.map keyL).Nodup → BkOk b → (∀ x ∈ l, atL b.2.2 (keyL x) = atL m0 (keyL x)) → SeqOk b (diffL m0 l) →
  (∀ p, p ∉ l.map keyL → atL (seqB b (diffL m0 l)).2.2 p = atL b.2.2 p) ∧ (∀ x ∈ l, atL (seqB b (diffL m0 l)).2.2 (keyL x) = x.2.2) ∧ (seqB b (diffL m0 l)).2.1.map nameL = b.2.1.map nameL
 | [], b, _, _, _, _ => ⟨fun _ _ => rfl, fun x hx => (by cases hx), rfl⟩
 | x :: l, b, hn, hok, hm, hs => by
  rw [List.map_cons, List.nodup_cons] at hn
  obtain ⟨hn1, hn2⟩ := hn
  have hxA := hm x (List.mem_cons_self ..)
  have hne : ∀ y ∈ l, keyL y ≠ keyL x := fun y hy e => hn1 (e ▸ List.mem_map_of_mem hy)
  have hd : diffL m0 (x :: l) = diffOne m0 x ++ diffL m0 l := by unfold diffL; rw [List.flatMap_cons]
  rw [hd] at hs ⊢
  have key : ∀ b1 : Bk, BkOk b1 → SeqOk b1 (diffL m0 l) → (∀ p, p ≠ keyL x → atL b1.2.2 p = atL b.2.2 p) → atL b1.2.2 (keyL x) = x.2.2 → b1.2.1.map nameL = b.2.1.map nameL → (∀ p, p ∉ (x :: l).map keyL → atL (seqB b1 (diffL m0 l)).2.2 p = atL b.2.2 p) ∧ (∀ y ∈ x :: l, atL (seqB b1 (diffL m0 l)).2.2 (keyL y) = y.2.2) ∧ (seqB b1 (diffL m0 l)).2.1.map nameL = b.2.1.map nameL := fun b1 ok1 s1 f1 f2 f3 => by
   obtain ⟨g1, g2, g3⟩ := seq_diff m0 l b1 hn2 ok1 (fun y hy => by rw [f1 _ (hne y hy)]; exact hm y (List.mem_cons_of_mem _ hy)) s1
   refine ⟨fun p hp => ?_, fun y hy => ?_, g3.trans f3⟩
   ·rw [List.map_cons, List.mem_cons, not_or] at hp
    rw [g1 p hp.2, f1 p hp.1]
   ·rcases List.mem_cons.1 hy with rfl | hy
    ·rw [g1 _ hn1]; exact f2
    ·exact g2 y hy
  unfold diffOne at hs ⊢
  have hk : (x.1, x.2.1) = keyL x := rfl
  rw [hk] at hs ⊢
  by_cases h1 : atL m0 (keyL x) < x.2.2
  ·rw [if_pos h1] at hs ⊢
   rw [List.singleton_append] at hs ⊢
   rw [seqB_cons]
   obtain ⟨f1, f2⟩ := more_at hok.wf hs.head
   rw [hk] at f1
   refine key _ (hok.do_ _) hs.tail (fun p hp => by rw [f1 p, if_neg hp]) ?_ f2
   rw [f1, if_pos rfl, hxA]; omega
  ·rw [if_neg h1] at hs ⊢
   by_cases h2 : x.2.2 < atL m0 (keyL x)
   ·rw [if_pos h2] at hs ⊢
    rw [List.singleton_append] at hs ⊢
    rw [seqB_cons]
    obtain ⟨f1, f2⟩ := less_at hok.wf hs.head
    rw [hk] at f1
    refine key _ (hok.do_ _) hs.tail (fun p hp => by rw [f1 p, if_neg hp]) ?_ f2
    rw [f1, if_pos rfl, hxA]; omega
   ·rw [if_neg h2] at hs ⊢
    rw [List.nil_append] at hs ⊢
    exact key b hok hs (fun _ _ => rfl) (by rw [hxA]; omega) rfl
theorem sheet_nodup {l : List Ln} (h : ∀ i, i < l.length → sheetE l i = 0) : (l.map keyL).Nodup := by
 unfold List.Nodup
 rw [List.pairwise_map, List.pairwise_iff_getElem]
 intro i j hi hj hij e
 have hx : l[j]? = some l[j] := List.getElem?_eq_getElem hj
 have h9 := h j hj
 rw [sheetE_eq hx] at h9
 by_cases h0 : ownS l[j] = 0
 ·rw [if_pos h0] at h9
  have hst : standsS (l.take j) l[j] = true := by
   unfold standsS
   rw [List.any_eq_true]
   refine ⟨l[i], List.mem_take_iff_getElem.2 ⟨i, by omega, rfl⟩, ?_⟩
   have e' : (l[i].1, l[i].2.1) = (l[j].1, l[j].2.1) := e
   obtain ⟨e1, e2⟩ := Prod.mk.inj e'
   exact decide_eq_true ⟨e1, e2⟩
  rw [hst, if_pos rfl] at h9
  exact absurd h9 (by decide)
 ·rw [if_neg h0] at h9
  exact absurd h9 h0
theorem findI_map {α β : Type} {f : α → ByteArray} {g : β → ByteArray} {m : List α} {m' : List β} (h : m.map f = m'.map g) (c : ByteArray) : findI f m c = findI g m' c := by
 unfold findI
 have e : ∀ {γ : Type} (f : γ → ByteArray) (m : List γ), m.findIdx? (fun x => decide (f x = c)) = (m.map f).findIdx? (fun y => decide (y = c)) := fun f m => by
  rw [List.findIdx?_map]
  rfl
 rw [e f m, e g m', h]
theorem diff_twice {b : Bk} {l : List Ln} (hok : BkOk b) (h : ∀ i, i < l.length → sheetE l i = 0) (hn : ∀ i, i < l.length → noneS b l i = 0) (hs : SeqOk b (diffL b.2.2 l)) :
  diffL (seqB b (diffL b.2.2 l)).2.2 l = [] ∧ (∀ i, i < l.length → noneS (seqB b (diffL b.2.2 l)) l i = 0) ∧ ∀ x ∈ l, atL (seqB b (diffL b.2.2 l)).2.2 (x.1, x.2.1) = x.2.2 := by
 obtain ⟨_, h2, h3⟩ := seq_diff b.2.2 l b (sheet_nodup h) hok (fun _ _ => rfl) hs
 refine ⟨?_, fun i hi => ?_, fun x hx => h2 x hx⟩
 ·unfold diffL
  rw [List.flatMap_eq_nil_iff]
  intro x hx
  have h9 := h2 x hx
  unfold diffL at h9
  have hk : (x.1, x.2.1) = keyL x := rfl
  unfold diffOne
  rw [hk, if_neg, if_neg]
  all_goals
   unfold diffOne at h9
   omega
 ·have hx : l[i]? = some l[i] := List.getElem?_eq_getElem hi
  have h9 := hn i hi
  rw [noneS_eq hx] at h9 ⊢
  rw [findI_map h3]
  exact h9
end Go.Proofs.YtppodkkefegbkaaGreatDoor
namespace Go.Proofs.YtppodkkefegbkaaGreatDoor
open Go.RowKit Go.Lib Go.Sort
structure Lns (w : World) (q o : Nat) (l : List Ln) : Prop where
 lt : q < w.heap.size
 at_ : ∀ k x, l[k]? = some x → LineAt w q (o + k * 5) x
theorem Lns.below {w w' : World} {B q o : Nat} {l : List Ln} (h : Lns w q o l) (hB : q < B) (hb : Below B w w') : Lns w' q o l :=
 ⟨Nat.lt_of_lt_of_le h.lt hb.size, fun k x hk => (h.at_ k x hk).of_block (hb.block q hB)⟩
abbrev ShIn (w : World) (pp : Option Addr) (l : List Ln) : Prop := l = [] ∨ ∃ bq off, pp = some ⟨bq, off, none⟩ ∧ Lns w bq off l
theorem ShIn.on {w W : World} {pp : Option Addr} {l : List Ln} (h : ShIn w pp l) (hb : Below w.heap.size w W) : ShIn W pp l := h.imp id fun ⟨bq, off, h1, h2⟩ => ⟨bq, off, h1, h2.below h2.lt hb⟩
theorem ShIn.line {w W : World} {pp : Option Addr} {l : List Ln} (h : ShIn w pp l) (hb : Below w.heap.size w W) {k : Nat} {x : Ln} (hx : l[k]? = some x) : ∃ bq off, pp = some ⟨bq, off, none⟩ ∧ LineAt W bq (off + k * 5) x := by
 rcases h.on hb with rfl | ⟨bq, off, h1, h2⟩
 ·simp at hx
 ·exact ⟨bq, off, h1, h2.at_ k x hx⟩
def SzL (x : Ln) : Prop := x.1.1.size ≤ maxLen ∧ x.2.1.size ≤ maxLen
def longL (x : Ln) : Bool := decide (30 < x.1.1.size) || decide (30 < x.2.1.size)
def longsL (l : List Ln) : Bool := l.any longL
def longN (l : List Ln) : Int := if longsL l then 1 else 0
theorem longsL_yes {l : List Ln} {k : Nat} {x : Ln} (h : l[k]? = some x) (hx : longL x = true) : longsL l = true := List.any_eq_true.2 ⟨x, List.mem_of_getElem? h, hx⟩
theorem longsL_no {l : List Ln} (h : ∀ x ∈ l, longL x = false) : longsL l = false := by
 unfold longsL
 rw [List.any_eq_false]
 intro x hx
 rw [h x hx]; decide
theorem takeS_next {l : List Ln} {k : Nat} {x : Ln} {P : Ln → Prop} (hl : l[k]? = some x) (h : ∀ y ∈ l.take k, P y) (h1 : P x) : ∀ y ∈ l.take (k + 1), P y := by
 obtain ⟨hk, e⟩ := List.getElem?_eq_some_iff.1 hl
 rw [List.take_succ_eq_append_getElem hk, e]
 intro y hy
 rcases List.mem_append.1 hy with hy | hy
 ·exact h y hy
 ·rw [List.mem_singleton.1 hy]; exact h1
theorem Tryz.guardPs : Tryz.prog.eqGuardType Tryz.prog.depth 41 = false := by kernel_rfl
theorem eqPl_run (a a' : ByteArray) (r b r' b' : Int) (w : World) : (Op.equalIn 10000 41 (.agg #[.string a, .int .i64 r, .int .i64 b]) (.agg #[.string a', .int .i64 r', .int .i64 b'])).run Tryz.prog w = .ok (decide ((a, r, b) = (a', r', b'))) w := by
 have u3 := Tryz.underlying3
 have a3 := Tryz.isAgg3
 have z3 := Tryz.sizeOf3
 have u9 := Tryz.underlying9
 have a9 := Tryz.isAgg9
 have z9 := Tryz.sizeOf9
 have hS : Tryz.prog.underlying 41 = some (.struct (Tryz.prog.fieldsOf 41)) := by kernel_rfl
 have hp : Tryz.prog.stoodInHeld 41 = false := by kernel_rfl
 rw [show (10000 : Nat) = 9999 + 1 from rfl, run_equalIn_agg w 9999 41 _ _ hS hp]
 simp only [Program.fieldsOf, Tryz.underlying41]
 have e3 := same_eq a a'
 go_simp
 by_cases h1 : a = a' <;> by_cases h2 : r = r' <;> by_cases h3 : b = b' <;> simp [h1, h2, h3]
theorem lsheet_many (ad : Option Addr) (n cap : Nat) (w : World) (h : 30 < n) :
  Calls Tryz.prog 8 #[.slice ad n cap] w fun r w' => r = .returned (.int .i64 1) ∧ w' = w := by
 have h9 : (30 : Int) < (n : Int) := by omega
 go_enter Tryz.func8, Tryz.ntmps8
 go_wp2
 go_ret
 exact ⟨rfl, rfl⟩
theorem lsheet_any (pp : Option Addr) (l : List Ln) (cap : Nat) (w : World) (h : ShIn w pp l) (hn : l.length ≤ 30) (hz : ∀ x ∈ l, SzL x) :
  Calls Tryz.prog 8 #[.slice pp l.length cap] w fun r w' => r = .returned (.int .i64 (longN l)) ∧ w' = w := by
 have HE : Hid (∀ k x, l[k]? = some x → ∃ bq off, pp = some ⟨bq, off, none⟩ ∧ LineAt w bq (off + k * 5) x) := fun k x hx => h.line (Below.refl _ w) hx
 have HZ : Hid (∀ x ∈ l, SzL x) := hz
 generalize hln : l.length = ln at *
 have HN : Hid (ln = l.length) := hln.symm
 clear h hz hln
 go_enter Tryz.func8, Tryz.ntmps8
 go_wp2
 go_loopw [3] (fun i wr => ∃ k : Nat, k ≤ ln ∧ i = .int .i64 k ∧ wr = w ∧ ∀ x ∈ l.take k, longL x = false) (fun i _ => ln - (RowKit.intOf i).toNat)
 case atStart => exact ⟨0, Nat.zero_le _, rfl, rfl, by simp⟩
 case round =>
  obtain ⟨k, hk, rfl, rfl, hno⟩ := hrel
  have HNo : Hid (∀ x ∈ l.take k, longL x = false) := hno
  clear hno
  by_cases hlt : k < ln
  ·obtain ⟨x, hx⟩ : ∃ x, l[k]? = some x := ⟨_, List.getElem?_eq_getElem (by rw [← HN.out]; exact hlt)⟩
   have HX : Hid (l[k]? = some x) := hx
   obtain ⟨bq, off, rfl, c0, c1, c2, c3, c4⟩ := HE.out k x hx
   have hz := HZ.out x (List.mem_of_getElem? hx)
   have hz1 := hz.1
   have hz2 := hz.2
   unfold maxLen at hz1 hz2
   clear hx hz
   by_cases h1 : 30 < x.1.1.size
   ·have HL : Hid (longL x = true) := by show _ = _; unfold longL; simp [h1]
    have z1 : (30 : Int) < (x.1.1.size : Int) := by omega
    generalize x.1.1 = za at *
    go_wp2
    go_ret
    exact ⟨by rw [show longN l = 1 by unfold longN; rw [longsL_yes HX.out HL.out]; rfl]; rfl, by first | rfl | trivial⟩
   ·have z1 : ¬ (30 : Int) < (x.1.1.size : Int) := by omega
    have z1' : decide ((x.1.1.size : Int) > 30) = false := decide_eq_false z1
    by_cases h2 : 30 < x.2.1.size
    ·have HL : Hid (longL x = true) := by show _ = _; unfold longL; simp [h2]
     have z2 : (30 : Int) < (x.2.1.size : Int) := by omega
     generalize x.1.1 = za at *
     generalize x.2.1 = zl at *
     go_wp2
     go_ret
     exact ⟨by rw [show longN l = 1 by unfold longN; rw [longsL_yes HX.out HL.out]; rfl]; rfl, by first | rfl | trivial⟩
    ·have HL : Hid (longL x = false) := by show _ = _; unfold longL; simp [h1, h2]
     have z2 : ¬ (30 : Int) < (x.2.1.size : Int) := by omega
     generalize x.1.1 = za at *
     generalize x.2.1 = zl at *
     go_wp2
     go_roundw
     case rel => exact ⟨k + 1, by omega, by go_num, by first | rfl | trivial, takeS_next HX.out HNo.out HL.out⟩
     case measure => simp [RowKit.intOf]; omega
  ·have e : l.take k = l := List.take_of_length_le (by rw [← HN.out]; omega)
   have HE' : Hid (∀ x ∈ l, longL x = false) := fun x hx => HNo.out x (by rw [e]; exact hx)
   clear e
   go_wp2
   go_ret
   exact ⟨by rw [show longN l = 0 by unfold longN; rw [longsL_no HE'.out]; rfl]; rfl, by first | rfl | trivial⟩
theorem sameW {k z : ByteArray} (h : k = z) : (k.toList == z.data.toList) = true := by
 have := same_eq k z
 rw [decide_eq_true h, Lib.toList_data z] at this
 exact this
theorem otherW {k z : ByteArray} (h : k ≠ z) : (k.toList == z.data.toList) = false := by
 have := same_eq k z
 rw [decide_eq_false h, Lib.toList_data z] at this
 exact this
theorem dueC_of {c : ByteArray} {last day days D : Int} (hd : daysC c = days) (h0 : 0 ≤ days) (hD : IntKind.i64.wrap (day - days) = D) : dueC c last day = if day < last then false else (decide (last ≤ D) && decide (D ≤ day)) := by
 unfold dueC
 rw [hd, hD]
 by_cases h : day < last
 ·rw [if_pos (Or.inr h), if_pos h]
 ·rw [if_neg (by omega), if_neg h]
end Go.Proofs.YtppodkkefegbkaaGreatDoor
namespace Go.Proofs.YtppodkkefegbkaaGreatDoor
open Go.Lib Go.Sort
end Go.Proofs.YtppodkkefegbkaaGreatDoor
namespace Go.Proofs.YtppodkkefegbkaaGreatDoor
open Go.RowKit Go.Lib Go.Sort
theorem lix_any (g : Nat) (cb : Array Value) (p : Ln → Bool) (eg : ∀ args w, (callFunc g args).run Tryz.prog w = .ok (.enter g args) w) (pp : Option Addr) (l : List Ln) (cap : Nat) (w : World) (h : ShIn w pp l) (hn : l.length ≤ 1000)
  (hf : ∀ (x : Ln), x ∈ l → ∀ W : World, Below w.heap.size w W → Calls Tryz.prog g ((#[agN x] : Array Value) ++ cb) W fun e w' => e = .returned (.bool (p x)) ∧ Below W.heap.size W w') :
  Calls Tryz.prog 30 #[.slice pp l.length cap, .func (.func g) #[] cb] w fun e w' => ((e = .returned (.int .i64 (-1)) ∧ ∀ (j : Nat) (y : Ln), l[j]? = some y → p y = false) ∨ ∃ (k : Nat) (x : Ln), l[k]? = some x ∧ p x = true ∧ (∀ (j : Nat) (y : Ln), j < k → l[j]? = some y → p y = false) ∧ e = .returned (.int .i64 (k : Int))) ∧ Below w.heap.size w w' := by
 have HE : Hid (∀ (W : World) (k : Nat) (x : Ln), Below w.heap.size w W → l[k]? = some x → ∃ bq off, pp = some ⟨bq, off, none⟩ ∧ LineAt W bq (off + k * 5) x) := fun W k x hb hx => h.line hb hx
 have HF : Hid (∀ (x : Ln), x ∈ l → ∀ W : World, Below w.heap.size w W → Calls Tryz.prog g ((#[agN x] : Array Value) ++ cb) W fun e w' => e = .returned (.bool (p x)) ∧ Below W.heap.size W w') := hf
 obtain ⟨ln, hln⟩ : ∃ ln, l.length = ln := ⟨_, rfl⟩
 have HN : Hid (ln = l.length) := hln.symm
 rw [hln] at hn ⊢
 clear h hf hln
 go_enter Tryz.func30, Tryz.ntmps30
 go_wp2
 go_loopw [5, 8] (fun _ vi wr => ∃ k : Nat, k ≤ ln ∧ vi = .int .i64 k ∧ Below w.heap.size w wr ∧ ∀ (j : Nat) (y : Ln), j < k → l[j]? = some y → p y = false) (fun _ vi _ => ln - (RowKit.intOf vi).toNat)
 case atStart => exact ⟨0, Nat.zero_le _, rfl, Below.refl _ _, fun j y hj => absurd hj (Nat.not_lt_zero _)⟩
 case round =>
  obtain ⟨k, hk, rfl, hb, hno⟩ := hrel
  have HB : Hid (Below w.heap.size w wr) := hb
  have HS : Hid (∀ (j : Nat) (y : Ln), j < k → l[j]? = some y → p y = false) := hno
  clear hno
  by_cases hlt : k < ln
  ·obtain ⟨x, hx⟩ : ∃ x, l[k]? = some x := ⟨_, List.getElem?_eq_getElem (by rw [← HN.out]; exact hlt)⟩
   have HX : Hid (l[k]? = some x) := hx
   obtain ⟨bq, off, rfl, c0, c1, c2, c3, c4⟩ := HE.out wr k x hb hx
   have hC := HF.out x (List.mem_of_getElem? hx) wr hb
   have HS1 : Hid (p x = false → ∀ (j : Nat) (y : Ln), j < k + 1 → l[j]? = some y → p y = false) := fun hq j y hj hy => by
    rcases Nat.lt_or_ge j k with q | q
    ·exact HS.out j y q hy
    ·obtain rfl : j = k := by omega
     rw [HX.out] at hy
     cases hy
     exact hq
   have hltz : (k : Int) < (ln : Int) := by omega
   clear hx hb
   cases hq : p x with
   | true =>
    rw [hq] at hC
    have HQ : Hid (p x = true) := hq
    have HC : Hid (Calls Tryz.prog g ((#[agN x] : Array Value) ++ cb) wr _) := hC
    clear hq hC
    obtain ⟨x', hx'⟩ : ∃ x', x = x' := ⟨_, rfl⟩
    obtain ⟨⟨xz, xr, xb⟩, xl, xn⟩ := x
    simp only at c0 c1 c2 c3 c4
    unfold agN at HC
    go_wp2_with (go_at_fn g; refine HC.out.mono ?_; rintro r w2 ⟨rfl, hb2⟩; have HB2 : Hid (Below w.heap.size w w2) := HB.out.trans (hb2.mono HB.out.size); clear hb2)
    go_ret
    exact ⟨Or.inr ⟨k, _, HX.out, HQ.out, HS.out, rfl⟩, HB2.out⟩
   | false =>
    rw [hq] at hC
    have HQ : Hid (p x = false) := hq
    have HC : Hid (Calls Tryz.prog g ((#[agN x] : Array Value) ++ cb) wr _) := hC
    clear hq hC
    obtain ⟨⟨xz, xr, xb⟩, xl, xn⟩ := x
    simp only at c0 c1 c2 c3 c4
    unfold agN at HC
    go_wp2_with (go_at_fn g; refine HC.out.mono ?_; rintro r w2 ⟨rfl, hb2⟩; have HB2 : Hid (Below w.heap.size w w2) := HB.out.trans (hb2.mono HB.out.size); clear hb2)
    go_roundw
    case rel => exact ⟨k + 1, by omega, by go_num, HB2.out, HS1.out HQ.out⟩
    case measure => simp [RowKit.intOf]; omega
  ·have HA : Hid (∀ (j : Nat) (y : Ln), l[j]? = some y → p y = false) := fun j y hy => HS.out j y (by have := (List.getElem?_eq_some_iff.1 hy).1; rw [← HN.out] at this; omega) hy
   go_wp2
   go_ret
   exact ⟨Or.inl ⟨rfl, HA.out⟩, HB.out⟩
theorem lct_any (g : Nat) (cb : Array Value) (p : Ln → Bool) (eg : ∀ args w, (callFunc g args).run Tryz.prog w = .ok (.enter g args) w) (pp : Option Addr) (l : List Ln) (cap : Nat) (w : World) (h : ShIn w pp l) (hn : l.length ≤ 1000)
  (hf : ∀ (x : Ln), x ∈ l → ∀ W : World, Below w.heap.size w W → Calls Tryz.prog g ((#[agN x] : Array Value) ++ cb) W fun e w' => e = .returned (.bool (p x)) ∧ Below W.heap.size W w') :
  Calls Tryz.prog 78 #[.slice pp l.length cap, .func (.func g) #[] cb] w fun e w' => e = .returned (.bool (l.any p)) ∧ Below w.heap.size w w' := by
 have hI : Calls Tryz.prog 30 #[.slice pp l.length cap, .func (.func g) #[] cb] w fun e w' => (∃ n : Int, e = .returned (.int .i64 n) ∧ l.any p = decide (0 ≤ n)) ∧ Below w.heap.size w w' := (lix_any g cb p eg pp l cap w h hn hf).mono fun e w' ⟨h1, h2⟩ => by
  refine ⟨?_, h2⟩
  rcases h1 with ⟨rfl, h3⟩ | ⟨k, x, hx, hp, _, rfl⟩
  ·refine ⟨-1, rfl, ?_⟩
   rw [decide_eq_false (by omega), List.any_eq_false]
   intro y hy
   obtain ⟨j, hj⟩ := List.getElem?_of_mem hy
   rw [h3 j y hj]; decide
  ·refine ⟨k, rfl, ?_⟩
   rw [decide_eq_true (by omega)]
   exact List.any_eq_true.2 ⟨x, List.mem_of_getElem? hx, hp⟩
 have HI : Hid (Calls Tryz.prog _ _ _ _) := hI
 generalize l.length = ln at *
 clear h hn hf hI
 go_enter Tryz.func78, Tryz.ntmps78
 go_wp2_with (go_at_call 30; refine HI.out.mono ?_; rintro r w2 ⟨⟨n, rfl, hd⟩, hb2⟩; have HD : Hid (l.any p = decide (0 ≤ n)) := hd; have HB2 : Hid (Below w.heap.size w w2) := hb2; clear hb2 hd)
 go_ret
 exact ⟨by rw [HD.out]; rfl, HB2.out⟩
theorem five_more {w U : World} {q p : Nat} {T : TypeId} {a0 a1 a2 a3 a4 a5 a6 a7 a8 a9 a10 a11 a12 a13 : Value} (h : U.heap[q]? = some (.cells #[a0, a1, a2, a3, a4, a5, a6, a7, a8, a9, a10, a11, a12, a13] T (0, 0))) (hb : Below w.heap.size w U) (hq : w.heap.size ≤ q) (hp : p ≠ q) (v0 v1 v2 v3 v4 : Value) : ∃ W, (((((U.setCell ⟨q, 0, none⟩ v0).setCell ⟨q, 10, none⟩ v1).setCell ⟨q, 11, none⟩ v2).setCell ⟨q, 12, none⟩ v3).setCell ⟨q, 13, none⟩ v4) = W ∧ W.heap[q]? = some (.cells #[v0, a1, a2, a3, a4, a5, a6, a7, a8, a9, v1, v2, v3, v4] T (0, 0)) ∧ Below w.heap.size w W ∧ W.heap[p]? = U.heap[p]? := by
 have t0 := set_cell (cs' := #[v0, a1, a2, a3, a4, a5, a6, a7, a8, a9, a10, a11, a12, a13]) h 0 v0 rfl
 have t1 := set_cell (cs' := #[v0, a1, a2, a3, a4, a5, a6, a7, a8, a9, v1, a11, a12, a13]) t0 10 v1 rfl
 have t2 := set_cell (cs' := #[v0, a1, a2, a3, a4, a5, a6, a7, a8, a9, v1, v2, a12, a13]) t1 11 v2 rfl
 have t3 := set_cell (cs' := #[v0, a1, a2, a3, a4, a5, a6, a7, a8, a9, v1, v2, v3, a13]) t2 12 v3 rfl
 have t4 := set_cell (cs' := #[v0, a1, a2, a3, a4, a5, a6, a7, a8, a9, v1, v2, v3, v4]) t3 13 v4 rfl
 exact ⟨_, rfl, t4, (((((hb.setCell (p := ⟨q, 0, none⟩) hq v0).setCell (p := ⟨q, 10, none⟩) hq v1).setCell (p := ⟨q, 11, none⟩) hq v2).setCell (p := ⟨q, 12, none⟩) hq v3).setCell (p := ⟨q, 13, none⟩) hq v4), ((Below.heap_setCell _ ⟨q, 13, none⟩ v4 p hp).trans ((Below.heap_setCell _ ⟨q, 12, none⟩ v3 p hp).trans ((Below.heap_setCell _ ⟨q, 11, none⟩ v2 p hp).trans ((Below.heap_setCell _ ⟨q, 10, none⟩ v1 p hp).trans (Below.heap_setCell _ ⟨q, 0, none⟩ v0 p hp)))))⟩
theorem five_less {w U : World} {q p : Nat} {T : TypeId} {a0 a1 a2 a3 a4 a5 a6 a7 a8 a9 a10 a11 a12 a13 : Value} (h : U.heap[q]? = some (.cells #[a0, a1, a2, a3, a4, a5, a6, a7, a8, a9, a10, a11, a12, a13] T (0, 0))) (hb : Below w.heap.size w U) (hq : w.heap.size ≤ q) (hp : p ≠ q) (v0 v1 v2 v3 v4 : Value) : ∃ W, (((((U.setCell ⟨q, 0, none⟩ v0).setCell ⟨q, 7, none⟩ v1).setCell ⟨q, 8, none⟩ v2).setCell ⟨q, 9, none⟩ v3).setCell ⟨q, 13, none⟩ v4) = W ∧ W.heap[q]? = some (.cells #[v0, a1, a2, a3, a4, a5, a6, v1, v2, v3, a10, a11, a12, v4] T (0, 0)) ∧ Below w.heap.size w W ∧ W.heap[p]? = U.heap[p]? := by
 have t0 := set_cell (cs' := #[v0, a1, a2, a3, a4, a5, a6, a7, a8, a9, a10, a11, a12, a13]) h 0 v0 rfl
 have t1 := set_cell (cs' := #[v0, a1, a2, a3, a4, a5, a6, v1, a8, a9, a10, a11, a12, a13]) t0 7 v1 rfl
 have t2 := set_cell (cs' := #[v0, a1, a2, a3, a4, a5, a6, v1, v2, a9, a10, a11, a12, a13]) t1 8 v2 rfl
 have t3 := set_cell (cs' := #[v0, a1, a2, a3, a4, a5, a6, v1, v2, v3, a10, a11, a12, a13]) t2 9 v3 rfl
 have t4 := set_cell (cs' := #[v0, a1, a2, a3, a4, a5, a6, v1, v2, v3, a10, a11, a12, v4]) t3 13 v4 rfl
 exact ⟨_, rfl, t4, (((((hb.setCell (p := ⟨q, 0, none⟩) hq v0).setCell (p := ⟨q, 7, none⟩) hq v1).setCell (p := ⟨q, 8, none⟩) hq v2).setCell (p := ⟨q, 9, none⟩) hq v3).setCell (p := ⟨q, 13, none⟩) hq v4), ((Below.heap_setCell _ ⟨q, 13, none⟩ v4 p hp).trans ((Below.heap_setCell _ ⟨q, 9, none⟩ v3 p hp).trans ((Below.heap_setCell _ ⟨q, 8, none⟩ v2 p hp).trans ((Below.heap_setCell _ ⟨q, 7, none⟩ v1 p hp).trans (Below.heap_setCell _ ⟨q, 0, none⟩ v0 p hp)))))⟩
theorem found_more (x : Ln) (n : Int) (w : World) (h1 : n < x.2.2) (hd : IntKind.i64.wrap (x.2.2 - n) = x.2.2 - n) :
  Calls Tryz.prog 33 #[agN x, .int .i64 n] w fun e w' => e = .returned (agE (moreEn x (x.2.2 - n))) ∧ Below w.heap.size w w' := by
 obtain ⟨U1, hU1⟩ : ∃ U1, w.alloc (.cells #[.string x.1.1, .int .i64 x.1.2.1, .int .i64 x.1.2.2, .string x.2.1, .int .i64 x.2.2] 48) = U1 := ⟨_, rfl⟩
 have l1 : LineAt U1 w.heap.size 0 x := hU1 ▸ LineAt.new w x _ _ rfl
 have b1 : Below w.heap.size w U1 := hU1 ▸ (Below.refl _ w).alloc (Nat.le_refl _) _
 have s1 : U1.heap.size = w.heap.size + 1 := by rw [← hU1]; simp
 obtain ⟨U2, hU2⟩ : ∃ U2, U1.alloc (celE zeroE) = U2 := ⟨_, rfl⟩
 have e2 : BlkE U2 U1.heap.size zeroE := hU2 ▸ BlkE.new U1 zeroE
 have b2 : Below U1.heap.size U1 U2 := hU2 ▸ (Below.refl _ U1).alloc (Nat.le_refl _) _
 have s2 : U2.heap.size = U1.heap.size + 1 := by rw [← hU2]; simp
 obtain ⟨e0, he0⟩ : ∃ e0 : En, e0 = (⟨#[]⟩, (⟨#[]⟩, 0), (x.2.1, ⟨#[]⟩, 0, 0), (⟨#[]⟩, 0, 0), (⟨#[]⟩, 0, 0), 0) := ⟨_, rfl⟩
 obtain ⟨U3, hU3⟩ : ∃ U3, U2.alloc (celE e0) = U3 := ⟨_, rfl⟩
 have e3 : BlkE U3 U2.heap.size e0 := hU3 ▸ BlkE.new U2 e0
 have b3 : Below U2.heap.size U2 U3 := hU3 ▸ (Below.refl _ U2).alloc (Nat.le_refl _) _
 have l2 : LineAt U2 w.heap.size 0 x := l1.of_block (b2.block _ l1.lt)
 have l3 : LineAt U3 w.heap.size 0 x := l2.of_block (b3.block _ l2.lt)
 have HE2 : Hid (BlkE U3 U1.heap.size zeroE) := e2.below b3
 have HB : Hid (Below w.heap.size w U3) := b1.trans ((b2.trans (b3.mono (by omega))).mono (by omega))
 have HE3 : Hid (BlkE U3 U2.heap.size e0) := e3
 have hne : w.heap.size ≠ U2.heap.size := by omega
 have hne' : U2.heap.size ≠ w.heap.size := fun e => hne e.symm
 have HN3 : Hid (w.heap.size ≤ U2.heap.size) := by show _ ≤ _; omega
 have HN2 : Hid (w.heap.size ≤ U1.heap.size) := by show _ ≤ _; omega
 have HN : Hid (U1.heap.size ≠ U2.heap.size) := by show _ ≠ _; omega
 obtain ⟨q0, q1, q2, q3, q4⟩ := l2
 obtain ⟨c0, c1, c2, c3, c4⟩ := l3
 obtain ⟨k0, k1, k2, k3, k4, k5, k6, k7, k8, k9, k10, k11, k12, k13⟩ := e3.at
 have fz := e3.frozen
 subst he0
 unfold celE zeroE zeroG zeroL zeroP at hU2
 unfold celE at hU3
 unfold BlkE at HE3
 simp only at hU2 hU3 k0 k1 k2 k3 k4 k5 k6 k7 k8 k9 k10 k11 k12 k13 HE3
 obtain ⟨⟨xz, xr, xb⟩, xl, xn⟩ := x
 simp only at *
 unfold agN agE moreEn kMore
 simp only
 have HU3 : Hid (_ = U3) := hU3
 clear b1 b2 b3 e2 e3 s1 s2 hU3 l1
 go_enter Tryz.func33, Tryz.ntmps33
 go_upto_region 2 with (fail)
 rw [HU3.out]
 clear q0 q1 q2 q3 q4 hU1 hU2 HU3
 go_wp2
 go_region
 clear c0 c1 c2 c3 c4 k0 k1 k2 k3 k4 k5 k6 k7 k8 k9 k10 k11 k12 k13 fz
 obtain ⟨WR, eW, t4, hbW, h2o⟩ := five_more HE3.out HB.out HN3.out HN.out (.string ⟨#[109, 111, 114, 101]⟩) (.string xz) (.int .i64 xr) (.int .i64 xb) (.int .i64 (xn - n))
 rw [eW]
 have h2W : BlkE WR U1.heap.size zeroE := h2o.trans HE2.out
 clear eW h2o
 have hbV : Below w.heap.size w WR.drew := hbW.drew
 have h3V : BlkE WR.drew U2.heap.size (⟨#[109, 111, 114, 101]⟩, (⟨#[]⟩, 0), (xl, ⟨#[]⟩, 0, 0), (⟨#[]⟩, 0, 0), (xz, xr, xb), xn - n) := t4
 have h2V : BlkE WR.drew U1.heap.size zeroE := h2W
 generalize WR.drew = V at *
 clear t4 hbW h2W
 obtain ⟨g0, g1, g2, g3, g4, g5, g6, g7, g8, g9, g10, g11, g12, g13⟩ := h3V.at
 obtain ⟨z0, z1, z2, z3, z4, z5, z6, z7, z8, z9, z10, z11, z12, z13⟩ := h2V.at
 have fz := h2V.frozen
 have HV2 : Hid (BlkE V U1.heap.size zeroE) := h2V
 have HBV : Hid (Below w.heap.size w V) := hbV
 unfold zeroE zeroG zeroL zeroP at z0 z1 z2 z3 z4 z5 z6 z7 z8 z9 z10 z11 z12 z13
 simp only at g0 g1 g2 g3 g4 g5 g6 g7 g8 g9 g10 g11 g12 g13 z0 z1 z2 z3 z4 z5 z6 z7 z8 z9 z10 z11 z12 z13
 clear h3V h2V hbV
 go_wp2
 have hFF : BlkE ((((((((((((((V.setCell ⟨U1.heap.size, 0, none⟩ (.string ⟨#[109, 111, 114, 101]⟩)).setCell ⟨U1.heap.size, 1, none⟩ (.string ⟨#[]⟩)).setCell ⟨U1.heap.size, 2, none⟩ (.int .i64 0)).setCell ⟨U1.heap.size, 3, none⟩ (.string xl)).setCell ⟨U1.heap.size, 4, none⟩ (.string ⟨#[]⟩)).setCell ⟨U1.heap.size, 5, none⟩ (.int .i64 0)).setCell ⟨U1.heap.size, 6, none⟩ (.int .i64 0)).setCell ⟨U1.heap.size, 7, none⟩ (.string ⟨#[]⟩)).setCell ⟨U1.heap.size, 8, none⟩ (.int .i64 0)).setCell ⟨U1.heap.size, 9, none⟩ (.int .i64 0)).setCell ⟨U1.heap.size, 10, none⟩ (.string xz)).setCell ⟨U1.heap.size, 11, none⟩ (.int .i64 xr)).setCell ⟨U1.heap.size, 12, none⟩ (.int .i64 xb)).setCell ⟨U1.heap.size, 13, none⟩ (.int .i64 (xn - n))) U1.heap.size (⟨#[109, 111, 114, 101]⟩, (⟨#[]⟩, 0), (xl, ⟨#[]⟩, 0, 0), (⟨#[]⟩, 0, 0), (xz, xr, xb), xn - n) := BlkE.setE HV2.out (⟨#[109, 111, 114, 101]⟩, (⟨#[]⟩, 0), (xl, ⟨#[]⟩, 0, 0), (⟨#[]⟩, 0, 0), (xz, xr, xb), xn - n)
 have hBF : Below w.heap.size w ((((((((((((((V.setCell ⟨U1.heap.size, 0, none⟩ (.string ⟨#[109, 111, 114, 101]⟩)).setCell ⟨U1.heap.size, 1, none⟩ (.string ⟨#[]⟩)).setCell ⟨U1.heap.size, 2, none⟩ (.int .i64 0)).setCell ⟨U1.heap.size, 3, none⟩ (.string xl)).setCell ⟨U1.heap.size, 4, none⟩ (.string ⟨#[]⟩)).setCell ⟨U1.heap.size, 5, none⟩ (.int .i64 0)).setCell ⟨U1.heap.size, 6, none⟩ (.int .i64 0)).setCell ⟨U1.heap.size, 7, none⟩ (.string ⟨#[]⟩)).setCell ⟨U1.heap.size, 8, none⟩ (.int .i64 0)).setCell ⟨U1.heap.size, 9, none⟩ (.int .i64 0)).setCell ⟨U1.heap.size, 10, none⟩ (.string xz)).setCell ⟨U1.heap.size, 11, none⟩ (.int .i64 xr)).setCell ⟨U1.heap.size, 12, none⟩ (.int .i64 xb)).setCell ⟨U1.heap.size, 13, none⟩ (.int .i64 (xn - n))) := below_setE HBV.out HN2.out (⟨#[109, 111, 114, 101]⟩, (⟨#[]⟩, 0), (xl, ⟨#[]⟩, 0, 0), (⟨#[]⟩, 0, 0), (xz, xr, xb), xn - n)
 generalize ((((((((((((((V.setCell ⟨U1.heap.size, 0, none⟩ (.string ⟨#[109, 111, 114, 101]⟩)).setCell ⟨U1.heap.size, 1, none⟩ (.string ⟨#[]⟩)).setCell ⟨U1.heap.size, 2, none⟩ (.int .i64 0)).setCell ⟨U1.heap.size, 3, none⟩ (.string xl)).setCell ⟨U1.heap.size, 4, none⟩ (.string ⟨#[]⟩)).setCell ⟨U1.heap.size, 5, none⟩ (.int .i64 0)).setCell ⟨U1.heap.size, 6, none⟩ (.int .i64 0)).setCell ⟨U1.heap.size, 7, none⟩ (.string ⟨#[]⟩)).setCell ⟨U1.heap.size, 8, none⟩ (.int .i64 0)).setCell ⟨U1.heap.size, 9, none⟩ (.int .i64 0)).setCell ⟨U1.heap.size, 10, none⟩ (.string xz)).setCell ⟨U1.heap.size, 11, none⟩ (.int .i64 xr)).setCell ⟨U1.heap.size, 12, none⟩ (.int .i64 xb)).setCell ⟨U1.heap.size, 13, none⟩ (.int .i64 (xn - n))) = WF at *
 obtain ⟨f0, f1, f2, f3, f4, f5, f6, f7, f8, f9, f10, f11, f12, f13⟩ := hFF.at
 simp only at f0 f1 f2 f3 f4 f5 f6 f7 f8 f9 f10 f11 f12 f13
 have hzF := hFF.lt
 exact bodyPost_ret (v := .agg #[.string ⟨#[109, 111, 114, 101]⟩, .string ⟨#[]⟩, .int .i64 0, .string xl, .string ⟨#[]⟩, .int .i64 0, .int .i64 0, .string ⟨#[]⟩, .int .i64 0, .int .i64 0, .string xz, .int .i64 xr, .int .i64 xb, .int .i64 (xn - n)]) (by simp [results, Tryz.results33, go_sem, f0, f1, f2, f3, f4, f5, f6, f7, f8, f9, f10, f11, f12, f13]) rfl ⟨rfl, hBF⟩
theorem found_less (x : Ln) (n : Int) (w : World) (h1 : x.2.2 < n) (hd : IntKind.i64.wrap (n - x.2.2) = n - x.2.2) :
  Calls Tryz.prog 33 #[agN x, .int .i64 n] w fun e w' => e = .returned (agE (lessEn x (n - x.2.2))) ∧ Below w.heap.size w w' := by
 obtain ⟨U1, hU1⟩ : ∃ U1, w.alloc (.cells #[.string x.1.1, .int .i64 x.1.2.1, .int .i64 x.1.2.2, .string x.2.1, .int .i64 x.2.2] 48) = U1 := ⟨_, rfl⟩
 have l1 : LineAt U1 w.heap.size 0 x := hU1 ▸ LineAt.new w x _ _ rfl
 have b1 : Below w.heap.size w U1 := hU1 ▸ (Below.refl _ w).alloc (Nat.le_refl _) _
 have s1 : U1.heap.size = w.heap.size + 1 := by rw [← hU1]; simp
 obtain ⟨U2, hU2⟩ : ∃ U2, U1.alloc (celE zeroE) = U2 := ⟨_, rfl⟩
 have e2 : BlkE U2 U1.heap.size zeroE := hU2 ▸ BlkE.new U1 zeroE
 have b2 : Below U1.heap.size U1 U2 := hU2 ▸ (Below.refl _ U1).alloc (Nat.le_refl _) _
 have s2 : U2.heap.size = U1.heap.size + 1 := by rw [← hU2]; simp
 obtain ⟨e0, he0⟩ : ∃ e0 : En, e0 = (⟨#[]⟩, (⟨#[]⟩, 0), (x.2.1, ⟨#[]⟩, 0, 0), (⟨#[]⟩, 0, 0), (⟨#[]⟩, 0, 0), 0) := ⟨_, rfl⟩
 obtain ⟨U3, hU3⟩ : ∃ U3, U2.alloc (celE e0) = U3 := ⟨_, rfl⟩
 have e3 : BlkE U3 U2.heap.size e0 := hU3 ▸ BlkE.new U2 e0
 have b3 : Below U2.heap.size U2 U3 := hU3 ▸ (Below.refl _ U2).alloc (Nat.le_refl _) _
 have l2 : LineAt U2 w.heap.size 0 x := l1.of_block (b2.block _ l1.lt)
 have l3 : LineAt U3 w.heap.size 0 x := l2.of_block (b3.block _ l2.lt)
 have HE2 : Hid (BlkE U3 U1.heap.size zeroE) := e2.below b3
 have HB : Hid (Below w.heap.size w U3) := b1.trans ((b2.trans (b3.mono (by omega))).mono (by omega))
 have HE3 : Hid (BlkE U3 U2.heap.size e0) := e3
 have hne : w.heap.size ≠ U2.heap.size := by omega
 have hne' : U2.heap.size ≠ w.heap.size := fun e => hne e.symm
 have HN3 : Hid (w.heap.size ≤ U2.heap.size) := by show _ ≤ _; omega
 have HN2 : Hid (w.heap.size ≤ U1.heap.size) := by show _ ≤ _; omega
 have HN : Hid (U1.heap.size ≠ U2.heap.size) := by show _ ≠ _; omega
 obtain ⟨q0, q1, q2, q3, q4⟩ := l2
 obtain ⟨c0, c1, c2, c3, c4⟩ := l3
 obtain ⟨k0, k1, k2, k3, k4, k5, k6, k7, k8, k9, k10, k11, k12, k13⟩ := e3.at
 have fz := e3.frozen
 subst he0
 unfold celE zeroE zeroG zeroL zeroP at hU2
 unfold celE at hU3
 unfold BlkE at HE3
 simp only at hU2 hU3 k0 k1 k2 k3 k4 k5 k6 k7 k8 k9 k10 k11 k12 k13 HE3
 obtain ⟨⟨xz, xr, xb⟩, xl, xn⟩ := x
 simp only at *
 unfold agN agE lessEn kLess
 simp only
 have HU3 : Hid (_ = U3) := hU3
 clear b1 b2 b3 e2 e3 s1 s2 hU3 l1
 go_enter Tryz.func33, Tryz.ntmps33
 go_upto_region 2 with (fail)
 rw [HU3.out]
 clear q0 q1 q2 q3 q4 hU1 hU2 HU3
 go_wp2
 go_region
 clear c0 c1 c2 c3 c4 k0 k1 k2 k3 k4 k5 k6 k7 k8 k9 k10 k11 k12 k13 fz
 obtain ⟨WR, eW, t4, hbW, h2o⟩ := five_less HE3.out HB.out HN3.out HN.out (.string ⟨#[108, 101, 115, 115]⟩) (.string xz) (.int .i64 xr) (.int .i64 xb) (.int .i64 (n - xn))
 rw [eW]
 have h2W : BlkE WR U1.heap.size zeroE := h2o.trans HE2.out
 clear eW h2o
 have hbV : Below w.heap.size w WR.drew := hbW.drew
 have h3V : BlkE WR.drew U2.heap.size (⟨#[108, 101, 115, 115]⟩, (⟨#[]⟩, 0), (xl, ⟨#[]⟩, 0, 0), (xz, xr, xb), (⟨#[]⟩, 0, 0), n - xn) := t4
 have h2V : BlkE WR.drew U1.heap.size zeroE := h2W
 generalize WR.drew = V at *
 clear t4 hbW h2W
 obtain ⟨g0, g1, g2, g3, g4, g5, g6, g7, g8, g9, g10, g11, g12, g13⟩ := h3V.at
 obtain ⟨z0, z1, z2, z3, z4, z5, z6, z7, z8, z9, z10, z11, z12, z13⟩ := h2V.at
 have fz := h2V.frozen
 have HV2 : Hid (BlkE V U1.heap.size zeroE) := h2V
 have HBV : Hid (Below w.heap.size w V) := hbV
 unfold zeroE zeroG zeroL zeroP at z0 z1 z2 z3 z4 z5 z6 z7 z8 z9 z10 z11 z12 z13
 simp only at g0 g1 g2 g3 g4 g5 g6 g7 g8 g9 g10 g11 g12 g13 z0 z1 z2 z3 z4 z5 z6 z7 z8 z9 z10 z11 z12 z13
 clear h3V h2V hbV
 go_wp2
 have hFF : BlkE ((((((((((((((V.setCell ⟨U1.heap.size, 0, none⟩ (.string ⟨#[108, 101, 115, 115]⟩)).setCell ⟨U1.heap.size, 1, none⟩ (.string ⟨#[]⟩)).setCell ⟨U1.heap.size, 2, none⟩ (.int .i64 0)).setCell ⟨U1.heap.size, 3, none⟩ (.string xl)).setCell ⟨U1.heap.size, 4, none⟩ (.string ⟨#[]⟩)).setCell ⟨U1.heap.size, 5, none⟩ (.int .i64 0)).setCell ⟨U1.heap.size, 6, none⟩ (.int .i64 0)).setCell ⟨U1.heap.size, 7, none⟩ (.string xz)).setCell ⟨U1.heap.size, 8, none⟩ (.int .i64 xr)).setCell ⟨U1.heap.size, 9, none⟩ (.int .i64 xb)).setCell ⟨U1.heap.size, 10, none⟩ (.string ⟨#[]⟩)).setCell ⟨U1.heap.size, 11, none⟩ (.int .i64 0)).setCell ⟨U1.heap.size, 12, none⟩ (.int .i64 0)).setCell ⟨U1.heap.size, 13, none⟩ (.int .i64 (n - xn))) U1.heap.size (⟨#[108, 101, 115, 115]⟩, (⟨#[]⟩, 0), (xl, ⟨#[]⟩, 0, 0), (xz, xr, xb), (⟨#[]⟩, 0, 0), n - xn) := BlkE.setE HV2.out (⟨#[108, 101, 115, 115]⟩, (⟨#[]⟩, 0), (xl, ⟨#[]⟩, 0, 0), (xz, xr, xb), (⟨#[]⟩, 0, 0), n - xn)
 have hBF : Below w.heap.size w ((((((((((((((V.setCell ⟨U1.heap.size, 0, none⟩ (.string ⟨#[108, 101, 115, 115]⟩)).setCell ⟨U1.heap.size, 1, none⟩ (.string ⟨#[]⟩)).setCell ⟨U1.heap.size, 2, none⟩ (.int .i64 0)).setCell ⟨U1.heap.size, 3, none⟩ (.string xl)).setCell ⟨U1.heap.size, 4, none⟩ (.string ⟨#[]⟩)).setCell ⟨U1.heap.size, 5, none⟩ (.int .i64 0)).setCell ⟨U1.heap.size, 6, none⟩ (.int .i64 0)).setCell ⟨U1.heap.size, 7, none⟩ (.string xz)).setCell ⟨U1.heap.size, 8, none⟩ (.int .i64 xr)).setCell ⟨U1.heap.size, 9, none⟩ (.int .i64 xb)).setCell ⟨U1.heap.size, 10, none⟩ (.string ⟨#[]⟩)).setCell ⟨U1.heap.size, 11, none⟩ (.int .i64 0)).setCell ⟨U1.heap.size, 12, none⟩ (.int .i64 0)).setCell ⟨U1.heap.size, 13, none⟩ (.int .i64 (n - xn))) := below_setE HBV.out HN2.out (⟨#[108, 101, 115, 115]⟩, (⟨#[]⟩, 0), (xl, ⟨#[]⟩, 0, 0), (xz, xr, xb), (⟨#[]⟩, 0, 0), n - xn)
 generalize ((((((((((((((V.setCell ⟨U1.heap.size, 0, none⟩ (.string ⟨#[108, 101, 115, 115]⟩)).setCell ⟨U1.heap.size, 1, none⟩ (.string ⟨#[]⟩)).setCell ⟨U1.heap.size, 2, none⟩ (.int .i64 0)).setCell ⟨U1.heap.size, 3, none⟩ (.string xl)).setCell ⟨U1.heap.size, 4, none⟩ (.string ⟨#[]⟩)).setCell ⟨U1.heap.size, 5, none⟩ (.int .i64 0)).setCell ⟨U1.heap.size, 6, none⟩ (.int .i64 0)).setCell ⟨U1.heap.size, 7, none⟩ (.string xz)).setCell ⟨U1.heap.size, 8, none⟩ (.int .i64 xr)).setCell ⟨U1.heap.size, 9, none⟩ (.int .i64 xb)).setCell ⟨U1.heap.size, 10, none⟩ (.string ⟨#[]⟩)).setCell ⟨U1.heap.size, 11, none⟩ (.int .i64 0)).setCell ⟨U1.heap.size, 12, none⟩ (.int .i64 0)).setCell ⟨U1.heap.size, 13, none⟩ (.int .i64 (n - xn))) = WF at *
 obtain ⟨f0, f1, f2, f3, f4, f5, f6, f7, f8, f9, f10, f11, f12, f13⟩ := hFF.at
 simp only at f0 f1 f2 f3 f4 f5 f6 f7 f8 f9 f10 f11 f12 f13
 have hzF := hFF.lt
 exact bodyPost_ret (v := .agg #[.string ⟨#[108, 101, 115, 115]⟩, .string ⟨#[]⟩, .int .i64 0, .string xl, .string ⟨#[]⟩, .int .i64 0, .int .i64 0, .string xz, .int .i64 xr, .int .i64 xb, .string ⟨#[]⟩, .int .i64 0, .int .i64 0, .int .i64 (n - xn)]) (by simp [results, Tryz.results33, go_sem, f0, f1, f2, f3, f4, f5, f6, f7, f8, f9, f10, f11, f12, f13]) rfl ⟨rfl, hBF⟩
end Go.Proofs.YtppodkkefegbkaaGreatDoor
