/-
 CountDiffs at any input.
-/
import Derived.Test.YtppodkkefegbkaaGreatDoorJz38
import Derived.Test.YtppodkkefegbkaaGreatDoorJz15
import Derived.Test.YtppodkkefegbkaaGreatDoorJz26
import Derived.Test.YtppodkkefegbkaaGreatDoorJz29
import Derived.OwnWalk
import Derived.Deep.RegionHeld3
import Derived.BigQuiet
set_option maxRecDepth 100000
set_option maxHeartbeats 16000000
namespace Go.Proofs.YtppodkkefegbkaaGreatDoor
open Go.RowKit Go.Lib Go.Sort
theorem countDiffs_long {s : Nat → Addr} (K : CountK s) (v v2 : Value) (most : Int) (cl : ByteArray) (last day : Int) (w : World) (hs : Sent w s) (hL : ∀ W, Below w.heap.size w W → Calls Tryz.prog 7 #[v, .int .i64 40] W fun r w' => r = .returned (.int .i64 1) ∧ Below W.heap.size W w') :
  Calls Tryz.prog 4 #[v, v2, .int .i64 most, .string cl, .int .i64 last, .int .i64 day] w fun r w' => r = .returned (.bool true) ∧ Below w.heap.size w w' := by
 have HCo : Hid (Calls Tryz.prog 6 _ _ _) := counted_any K w hs
 have HL : Hid (∀ W, Below w.heap.size w W → Calls Tryz.prog 7 #[v, .int .i64 40] W _) := hL
 clear K hs hL
 go_enter Tryz.func4, Tryz.ntmps4
 go_wp2_with (first
  | (go_at_call 6; refine HCo.out.mono ?_; rintro r w1 ⟨rfl, hb1⟩; have HB1 : Hid (Below w.heap.size w w1) := hb1; clear hb1)
  | (go_at_call 7; refine (HL.out _ HB1.out).mono ?_; rintro r w2 ⟨rfl, hb2⟩; have HB2 : Hid (Below w.heap.size w w2) := HB1.out.trans (hb2.mono HB1.out.size); clear hb2))
 go_ret
 exact ⟨rfl, HB2.out⟩
theorem countDiffs_wide {s : Nat → Addr} (K : CountK s) (v v2 : Value) (most : Int) (cl : ByteArray) (last day : Int) (w : World) (hs : Sent w s) (hL : ∀ W, Below w.heap.size w W → Calls Tryz.prog 7 #[v, .int .i64 40] W fun r w' => r = .returned (.int .i64 0) ∧ Below W.heap.size W w') (hS : ∀ W, Below w.heap.size w W → Calls Tryz.prog 8 #[v2] W fun r w' => r = .returned (.int .i64 1) ∧ w' = W) :
  Calls Tryz.prog 4 #[v, v2, .int .i64 most, .string cl, .int .i64 last, .int .i64 day] w fun r w' => r = .returned (.bool true) ∧ Below w.heap.size w w' := by
 have HCo : Hid (Calls Tryz.prog 6 _ _ _) := counted_any K w hs
 have HL : Hid (∀ W, Below w.heap.size w W → Calls Tryz.prog 7 #[v, .int .i64 40] W _) := hL
 have HS : Hid (∀ W, Below w.heap.size w W → Calls Tryz.prog 8 #[v2] W _) := hS
 clear K hs hL hS
 go_enter Tryz.func4, Tryz.ntmps4
 go_wp2_with (first
  | (go_at_call 6; refine HCo.out.mono ?_; rintro r w1 ⟨rfl, hb1⟩; have HB1 : Hid (Below w.heap.size w w1) := hb1; clear hb1)
  | (go_at_call 7; refine (HL.out _ HB1.out).mono ?_; rintro r w2 ⟨rfl, hb2⟩; have HB2 : Hid (Below w.heap.size w w2) := HB1.out.trans (hb2.mono HB1.out.size); clear hb2)
  | (go_at_call 8; refine (HS.out _ HB2.out).mono ?_; rintro r w3 ⟨rfl, hw3⟩; have hw3' := hw3.symm; subst hw3'))
 go_ret
 exact ⟨rfl, HB2.out⟩
theorem countDiffs_far {s : Nat → Addr} (K : CountK s) (v v2 : Value) (most : Int) (cl : ByteArray) (last day : Int) (w : World) (hs : Sent w s) (hcl : 20 < cl.size) (hL : ∀ W, Below w.heap.size w W → Calls Tryz.prog 7 #[v, .int .i64 40] W fun r w' => r = .returned (.int .i64 0) ∧ Below W.heap.size W w') (hS : ∀ W, Below w.heap.size w W → Calls Tryz.prog 8 #[v2] W fun r w' => r = .returned (.int .i64 0) ∧ w' = W) :
  Calls Tryz.prog 4 #[v, v2, .int .i64 most, .string cl, .int .i64 last, .int .i64 day] w fun r w' => r = .returned (.bool true) ∧ Below w.heap.size w w' := by
 have HCo : Hid (Calls Tryz.prog 6 _ _ _) := counted_any K w hs
 have HL : Hid (∀ W, Below w.heap.size w W → Calls Tryz.prog 7 #[v, .int .i64 40] W _) := hL
 have HS : Hid (∀ W, Below w.heap.size w W → Calls Tryz.prog 8 #[v2] W _) := hS
 have z2 : (20 : Int) < (cl.size : Int) := by omega
 clear K hs hL hS
 go_enter Tryz.func4, Tryz.ntmps4
 go_wp2_with (first
  | (go_at_call 6; refine HCo.out.mono ?_; rintro r w1 ⟨rfl, hb1⟩; have HB1 : Hid (Below w.heap.size w w1) := hb1; clear hb1)
  | (go_at_call 7; refine (HL.out _ HB1.out).mono ?_; rintro r w2 ⟨rfl, hb2⟩; have HB2 : Hid (Below w.heap.size w w2) := HB1.out.trans (hb2.mono HB1.out.size); clear hb2)
  | (go_at_call 8; refine (HS.out _ HB2.out).mono ?_; rintro r w3 ⟨rfl, hw3⟩; have hw3' := hw3.symm; subst hw3'))
 go_ret
 exact ⟨rfl, HB2.out⟩
theorem countDiffs_any {s : Nat → Addr} (K : CountK s) (D : CountD s) (C : CountC s) (X : CountX s) (v v2 : Value) (most : Int) (cl : ByteArray) (last day : Int) (hla : In64 last) (hda : In64 day) (w : World) (hs : Sent w s) (hh : Handle w) (ho : (∃ ad c, v = .slice ad 0 c) ∨ ∃ b off c l, 1 ≤ l.length ∧ l.length ≤ maxLen ∧ v = .slice (some ⟨b, off, none⟩) l.length c ∧ Ents w b off l ∧ ∀ e ∈ l, SzE e) (ho2 : (∃ ad c, v2 = .slice ad 0 c) ∨ ∃ b off c l, 1 ≤ l.length ∧ l.length ≤ maxLen ∧ l.length ≤ c ∧ v2 = .slice (some ⟨b, off, none⟩) l.length c ∧ Lns w b off l ∧ ∀ e ∈ l, SzL e) :
  Calls Tryz.prog 4 #[v, v2, .int .i64 most, .string cl, .int .i64 last, .int .i64 day] w fun r w' => r = .returned (.bool true) ∧ Below w.heap.size w w' := by
 have shk : ∀ P : Prop, (∀ (qq : Option Addr) (sh : List Ln) (cap2 : Nat), v2 = .slice qq sh.length cap2 → ShIn w qq sh → sh.length ≤ cap2 → sh.length ≤ 30 → (∀ x ∈ sh, SzL x) → longsL sh = false → P) → ((∀ W, Below w.heap.size w W → Calls Tryz.prog 8 #[v2] W fun r w' => r = .returned (.int .i64 1) ∧ w' = W) → P) → P := fun P p1 p2 => by
  rcases ho2 with ⟨ad, c, rfl⟩ | ⟨b, off, c, l, h1, hm, hc, rfl, hE, hz⟩
  ·exact p1 ad [] c rfl (Or.inl rfl) (Nat.zero_le _) (by decide) (by simp) rfl
  ·by_cases h30 : l.length ≤ 30
   ·cases hl : longsL l with
    | false => exact p1 _ l c rfl (Or.inr ⟨b, off, rfl, hE⟩) hc h30 hz hl
    | true =>
     refine p2 fun W hb => ?_
     have := lsheet_any (some ⟨b, off, none⟩) l c W (Or.inr ⟨b, off, rfl, hE.below hE.lt hb⟩) h30 hz
     rw [show longN l = 1 by unfold longN; rw [hl]; rfl] at this
     exact this
   ·exact p2 fun W hb => lsheet_many _ l.length c W (by omega)
 have key : ∀ (pp : Option Addr) (l : List En) (cap : Nat), (∀ e ∈ l, SzE e) → (l = [] ∨ ∃ bq off, pp = some ⟨bq, off, none⟩ ∧ Ents w bq off l) → l.length ≤ 40 → longs l = false → Calls Tryz.prog 4 #[.slice pp l.length cap, v2, .int .i64 most, .string cl, .int .i64 last, .int .i64 day] w fun r w' => r = .returned (.bool true) ∧ Below w.heap.size w w' := fun pp l cap hz hr h40 hno => shk _ (fun qq sh cap2 e hq hcap h30 hqz hql => by
   by_cases hcl : cl.size ≤ 20
   ·rw [e]
    rcases first_or (sheetE sh) sh.length with hg1 | ⟨k, hk, hbe, hne⟩
    ·rcases first_or (noneS (bkTo l l.length) sh) sh.length with hg2 | ⟨k, hk, hbe, hne⟩
     ·exact countDiffs_fine K D C X pp l cap qq sh cap2 most cl last day hla hda w hs hh hz hr h40 hno hq hcap h30 hqz hql hcl hg1 hg2
     ·exact countDiffs_lot K D C X pp l cap qq sh cap2 most cl last day hla hda w hs hh hz hr h40 hno hq hcap h30 hqz hql hcl hg1 hk hbe hne
    ·exact countDiffs_sheet K D C X pp l cap qq sh cap2 most cl last day hla hda w hs hh hz hr h40 hno hq hcap h30 hqz hql hcl hk hbe hne
   ·refine countDiffs_far K _ v2 most cl last day w hs (by omega) (longs_zero hz hr h40 hno) fun W hb => ?_
    rw [e]
    have := lsheet_any qq sh cap2 W (hq.on hb) h30 hqz
    rw [show longN sh = 0 by unfold longN; rw [hql]; rfl] at this
    exact this) (fun hS => countDiffs_wide K _ v2 most cl last day w hs (longs_zero hz hr h40 hno) hS)
 rcases ho with ⟨ad, c, rfl⟩ | ⟨b, off, c, l, h1, hm, rfl, hE, hz⟩
 ·exact key ad [] c (by simp) (Or.inl rfl) (by decide) rfl
 ·by_cases h40 : l.length ≤ 40
  ·cases hl : longs l with
   | false => exact key _ l c hz (Or.inr ⟨b, off, rfl, hE⟩) h40 hl
   | true =>
    refine countDiffs_long K _ v2 most cl last day w hs fun W hb => ?_
    have := longs_some l b off c 40 W (hE.below hE.lt hb) hz (by omega) (by decide)
    rw [hl] at this
    exact this
  ·refine countDiffs_long K _ v2 most cl last day w hs fun W hb => ?_
   refine (longs_many (some ⟨b, off, none⟩) l.length c 40 W (by omega)).mono ?_
   rintro r w' ⟨rfl, rfl⟩
   exact ⟨rfl, Below.refl _ _⟩
end Go.Proofs.YtppodkkefegbkaaGreatDoor
namespace Go.Proofs.YtppodkkefegbkaaGreatDoor
open Go.RowKit Go.Shelf Go.Lib Go.Sort
def encE : Enc Sh where
 k := 2
 enc := encSh
 len _ := rfl
 one x v hv := encSh_one x v hv
theorem Tryz.infoSh : (Tryz.prog.info? 114).map (fun i => (i.zero, i.size, i.bytes)) = some (some (.agg #[.int .i64 0, .int .i64 0]), 2, 16) := by kernel_rfl
theorem Tryz.infoTx : (Tryz.prog.info? 9).map (fun i => (i.zero, i.size, i.bytes)) = some (some (.string ⟨#[]⟩), 1, 16) := by kernel_rfl
def shL (m : List Gs) : Nat → List Sh
 | 0 => []
 | i + 1 => match m[i]? with
  | some g => shL m i ++ [(i, outG g)]
  | none => shL m i
theorem shL_succ {m : List Gs} {i : Nat} {g : Gs} (h : m[i]? = some g) : shL m (i + 1) = shL m i ++ [(i, outG g)] := by
 show (match m[i]? with | some g => _ | none => _) = _
 rw [h]
theorem shL_len (m : List Gs) : ∀ {i : Nat}, i ≤ m.length → (shL m i).length = i
 | 0, _ => rfl
 | i + 1, h => by
  obtain ⟨g, hg⟩ : ∃ g, m[i]? = some g := ⟨_, List.getElem?_eq_getElem h⟩
  rw [shL_succ hg, List.length_append, shL_len m (Nat.le_of_succ_le h)]
  rfl
theorem shL_at (m : List Gs) : ∀ {k : Nat}, k ≤ m.length → ∀ {i : Nat} {g : Gs}, i < k → m[i]? = some g → (shL m k)[i]? = some (i, outG g)
 | 0, _, i, g, hi, _ => absurd hi (Nat.not_lt_zero _)
 | k + 1, hk, i, g, hi, hg => by
  obtain ⟨y, hy⟩ : ∃ y, m[k]? = some y := ⟨_, List.getElem?_eq_getElem hk⟩
  have hl := shL_len m (Nat.le_of_succ_le hk)
  rw [shL_succ hy]
  rcases Nat.lt_or_ge i k with h | h
  ·rw [List.getElem?_append_left (by omega)]
   exact shL_at m (Nat.le_of_succ_le hk) h hg
  ·obtain rfl : i = k := by omega
   rw [hy] at hg
   cases hg
   rw [List.getElem?_append_right (by omega), hl, Nat.sub_self]
   rfl
theorem shOf_shL (m : List Gs) : ShOf m (shL m m.length).toArray where
 size := by rw [List.size_toArray, shL_len m (Nat.le_refl _)]
 at_ i g hg := by
  have h := shL_at m (Nat.le_refl _) (List.getElem?_eq_some_iff.1 hg).1 hg
  obtain ⟨h1, h2⟩ := List.getElem?_eq_some_iff.1 h
  rw [getElem!_pos _ i (by simpa using h1)]
  simpa using h2
theorem flatE_array (m : List Sh) : (flatK encSh 2 m.toArray).toList = encE.flat m := by
 apply List.ext_getElem?
 intro j
 by_cases hj : j < m.length * 2
 ·have hi : j / 2 < m.length := by omega
  have h1 : m[j / 2]? = some m[j / 2] := List.getElem?_eq_getElem hi
  have h2 := encE.flat_get (j % 2) h1 (show j % 2 < 2 by omega)
  rw [show j / 2 * encE.k + j % 2 = j by show j / 2 * 2 + j % 2 = j; omega] at h2
  rw [h2, Array.getElem?_toList, Array.getElem?_eq_getElem (by rw [size_flatK]; simpa using hj)]
  have h3 := get_flatK encSh 2 m.toArray j (by simpa using hj)
  rw [getElem!_pos _ j (by rw [size_flatK]; simpa using hj)] at h3
  rw [h3, getElem!_pos m.toArray (j / 2) (by simpa using hi), List.getElem_toArray, getElem!_pos _ (j % 2) (by rw [encSh_len]; omega)]
  show some _ = (encSh _)[j % 2]?
  rw [List.getElem?_eq_getElem (by rw [encSh_len]; omega)]
 ·rw [List.getElem?_eq_none (l := encE.flat m) (by rw [encE.flat_len]; show m.length * 2 ≤ j; omega), List.getElem?_eq_none (by rw [Array.length_toList, size_flatK]; simpa using hj)]
theorem own_holdsSh {w : World} {base g cap : Nat} {m : List Sh} (h : w.ownsRow base 114 2 (.slice (some ⟨g, 0, none⟩) m.length cap) m.length (encE.flat m)) : HoldsK encSh 2 w g 0 m.toArray := by
 intro j hj
 have hj' : j < m.length * 2 := by rw [size_flatK] at hj; simpa using hj
 refine ⟨?_, ?_⟩
 ·rw [Nat.zero_add]
  have := h.cells (g := g) rfl j ((flatK encSh 2 m.toArray)[j]!) (by rw [← flatE_array, Array.getElem?_toList, Array.getElem?_eq_getElem hj, getElem!_pos _ j hj])
  rw [Go.WideShapes.add_plain] at this
  simpa using this
 ·rw [Nat.zero_add]; exact h.frozenAt j
theorem below_sortSh {B : Nat} (w : World) (blk off n : Nat) (d : Array Sh) (os : Array Obj) (hB : B ≤ w.heap.size) (hb : B ≤ blk) : Below B w (sortWorldK encSh 2 w blk off n d os) := by
 refine ⟨rfl, rfl, rfl, ?_, fun k hk => ?_⟩
 ·unfold sortWorldK; rw [size_grow, size_putRowK]; simp
 ·unfold sortWorldK
  rw [heap_grow_old _ _ (by rw [size_putRowK]; simp; omega)]
  show (w.heap.modify blk _)[k]? = _
  rw [Array.getElem?_modify, if_neg (by omega)]
theorem holds_cells {w : World} {g : Nat} {d : Array Sh} (h : HoldsK encSh 2 w g 0 d) {p : Nat} (hp : p < d.size) : w.cell? ⟨g, p * 2, none⟩ = some (.int .i64 ((d[p]!).1 : Int)) ∧ w.cell? ⟨g, p * 2 + 1, none⟩ = some (.int .i64 (d[p]!).2) := by
 have key : ∀ c, c < 2 → w.cell? ⟨g, p * 2 + c, none⟩ = some ((encSh d[p]!)[c]!) := by
  intro c hc
  have := (h (p * 2 + c) (by rw [size_flatK]; omega)).1
  rw [Nat.zero_add, get_flatK encSh 2 d _ (by omega), show (p * 2 + c) / 2 = p by omega, show (p * 2 + c) % 2 = c by omega] at this
  exact this
 exact ⟨key 0 (by decide), key 1 (by decide)⟩
theorem sortShares_none (w : World) : Calls Tryz.prog 47 #[.slice none 0 0, .func (.func 48) #[] #[]] w fun e w' => e = .returned (.tuple #[]) ∧ w' = w := by
 have hi : ∀ w, Calls Tryz.prog 109 #[.slice none 0 0, .int .i64 0, .int .i64 0, .func (.func 48) #[] #[]] w fun e w' => e = .returned (.tuple #[]) ∧ w' = w := fun w => by
  go_enter Tryz.func109, Tryz.ntmps109
  go_wp2
  refine wp_loop_rounds 1 ?_
  rw [rounds_succ]
  go_wp2
  go_end0
  exact ⟨rfl, rfl⟩
 have hs : ∀ w, Calls Tryz.prog 80 #[.slice none 0 0, .int .i64 0, .func (.func 48) #[] #[]] w fun e w' => e = .returned (.tuple #[]) ∧ w' = w := fun w => by
  go_enter Tryz.func80, Tryz.ntmps80
  go_wp2
  refine wp_loop_rounds 1 ?_
  rw [rounds_succ]
  go_wp2_with (go_at_call 109; refine (hi _).mono ?_; rintro e w1 ⟨rfl, rfl⟩)
  refine wp_loop_rounds 1 ?_
  rw [rounds_succ]
  go_wp2
  go_end0
  exact ⟨rfl, rfl⟩
 clear hi
 go_enter Tryz.func47, Tryz.ntmps47
 go_wp2_with (go_at_call 80; refine (hs _).mono ?_; rintro e w1 ⟨rfl, rfl⟩)
 go_end0
 exact ⟨rfl, rfl⟩
theorem classOf_any (a all : Int) (h0 : 0 ≤ a) (h1 : a ≤ 2000000000000000) (h2 : 0 ≤ all) (h3 : all ≤ 2000000000000000) (w : World) : Calls Tryz.prog 50 #[.int .i64 a, .int .i64 all] w fun e w' => e = .returned (.string (classG all a)) ∧ w' = w := by
 rw [classG_all h0 h2]
 by_cases q1 : a * 100 < all * 80
 ·rw [if_pos q1]
  go_enter Tryz.func50, Tryz.ntmps50
  go_wp2
  go_ret
  exact ⟨rfl, rfl⟩
 ·rw [if_neg q1]
  by_cases q2 : a * 100 < all * 95
  ·rw [if_pos q2]
   go_enter Tryz.func50, Tryz.ntmps50
   go_wp2
   go_ret
   exact ⟨rfl, rfl⟩
  ·rw [if_neg q2]
   go_enter Tryz.func50, Tryz.ntmps50
   go_wp2
   go_ret
   exact ⟨rfl, rfl⟩
theorem shares_any (w : World) (B : Nat) (x : Bl) (b : Bk) (hI : IsBk w B x b) :
  Calls Tryz.prog 46 #[.pointer (some ⟨x.p, 0, none⟩)] w fun e w' => ∃ v, e = .returned (.tuple #[v, .int .i64 (outsG b.1)]) ∧ encE.Row w' w.heap.size 114 v (shL b.1 b.1.length) ∧ (b.1.length = 0 → v = .slice none 0 0) ∧ Below w.heap.size w w' := by
 obtain ⟨i0, hi, hz0, hz1, hz2⟩ := info_parts Tryz.infoSh
 have hok := hI.ok
 have hOk := outOk_bk hok.wf
 have hg30 := hok.wf.gl
 have HGo : Hid (Calls Tryz.prog 25 #[.pointer (some ⟨x.p, 0, none⟩)] w fun e w' => (∃ p c, e = .returned (.slice p b.1.length c) ∧ ∀ V, Below w'.heap.size w' V → ∀ i g, b.1[i]? = some g → ∃ a, p = some ⟨a, 0, none⟩ ∧ V.cell? ⟨a, i * 2, none⟩ = some (.string (nameG g)) ∧ V.cell? ⟨a, i * 2 + 1, none⟩ = some (.int .i64 g.1.2)) ∧ Below w.heap.size w w') := (bgoods_any w _ x b hI).mono fun e w' ⟨v, h1, h2, h3⟩ => by
  rcases h2 with ⟨rfl, h0⟩ | ⟨g, c, rfl, _, _, hrow⟩
  ·exact ⟨⟨none, 0, by rw [h1, h0]; rfl, fun V hV i x hi => by rw [h0] at hi; simp at hi⟩, h3⟩
  ·exact ⟨⟨some ⟨g, 0, none⟩, c, h1, fun V hV i x hi => ⟨g, rfl, ((hrow.below hV) i x hi).1, ((hrow.below hV) i x hi).2⟩⟩, h3⟩
 have HSu : Hid (∀ W g, Below w.heap.size w W → g ∈ b.1 → Calls Tryz.prog 26 #[.pointer (some ⟨x.p, 0, none⟩), .string (nameG g)] W fun e w' => e = .returned (agU g.2) ∧ Below W.heap.size W w') := fun W g hb hg => by
  have := bsums_any (nameG g) W B x b (hI.below hb) (hI.sizeG hg)
  rw [sumsB_mem hok hg] at this
  exact this
 have HOk : Hid (OutOk b.1) := hOk
 obtain ⟨ln, hln⟩ : ∃ ln, b.1.length = ln := ⟨_, rfl⟩
 have HN : Hid (b.1.length = ln) := hln
 rw [hln] at HGo hg30 ⊢
 clear hI hok hOk hln
 go_enter Tryz.func46, Tryz.ntmps46
 go_wp2_with (go_at_call 25; refine HGo.out.mono ?_; rintro r w1 ⟨⟨p1, c1, rfl, hg1⟩, hb1⟩; have HB1 : Hid (Below w.heap.size w w1) := hb1; have HG1 : Hid (∀ V, Below w1.heap.size w1 V → ∀ i g, b.1[i]? = some g → ∃ a, p1 = some ⟨a, 0, none⟩ ∧ V.cell? ⟨a, i * 2, none⟩ = some (.string (nameG g)) ∧ V.cell? ⟨a, i * 2 + 1, none⟩ = some (.int .i64 g.1.2)) := hg1; clear hg1 hb1)
 go_loopw [4, 5, 12] (fun vs va vi wr => ∃ (k : Nat) (vv : Value), k ≤ ln ∧ vi = .int .i64 k ∧ va = .int .i64 (outsG (b.1.take k)) ∧ vv = vs ∧ encE.Row wr w1.heap.size 114 vv (shL b.1 k) ∧ Hid (k = 0 → vv = .slice none 0 0) ∧ Below w1.heap.size w1 wr) (fun _ _ vi _ => ln - (RowKit.intOf vi).toNat)
 case atStart => exact ⟨0, _, Nat.zero_le _, rfl, by rw [List.take_zero]; rfl, rfl, World.ownsRow_nil _ _ _ _, fun _ => rfl, Below.refl _ _⟩
 case round =>
  obtain ⟨k, vout, hk, rfl, rfl, rfl, hrow, hz, hwr⟩ := hrel
  have HWr : Hid (Below w1.heap.size w1 wr) := hwr
  have HZ : Hid (k = 0 → vout = .slice none 0 0) := hz.out
  clear hz
  by_cases hlt : k < ln
  ·obtain ⟨g, hg⟩ : ∃ g, b.1[k]? = some g := ⟨_, List.getElem?_eq_getElem (by rw [HN.out]; exact hlt)⟩
   obtain ⟨a1, rfl, c0, c1'⟩ := HG1.out wr hwr k g hg
   obtain ⟨W1, hW1⟩ : ∃ W1, wr.alloc (.cells #[.string (nameG g), .int .i64 g.1.2] 37) = W1 := ⟨_, rfl⟩
   have n1 : W1.heap[wr.heap.size]? = _ := hW1 ▸ heap_alloc_new wr (.cells #[.string (nameG g), .int .i64 g.1.2] 37)
   have f0 : W1.cell? ⟨wr.heap.size, 0, none⟩ = some (.string (nameG g)) := by rw [cell_of_heap n1]; rfl
   have hb1 : Below wr.heap.size wr W1 := hW1 ▸ (Below.refl _ wr).alloc (Nat.le_refl _) _
   have HB2 : Hid (Below w1.heap.size w1 W1) := hwr.trans (hb1.mono hwr.size)
   have HSg : Hid (Calls Tryz.prog 26 #[.pointer (some ⟨x.p, 0, none⟩), .string (nameG g)] W1 _) := HSu.out W1 g (HB1.out.trans (HB2.out.mono HB1.out.size)) (List.mem_of_getElem? hg)
   have HRw : Hid (encE.Row W1 w1.heap.size 114 vout (shL b.1 k)) := hrow.below hb1
   have HSs : Hid (shL b.1 (k + 1) = shL b.1 k ++ [(k, outG g)]) := shL_succ hg
   have HOs : Hid (outsG (b.1.take (k + 1)) = outsG (b.1.take k) + outG g) := outsG_succ hg
   obtain ⟨o1, o2⟩ := outsG_bound (HOk.out.take k)
   obtain ⟨o3, o4⟩ := HOk.out g (List.mem_of_getElem? hg)
   have hl9 : (b.1.take k).length ≤ 30 := by rw [List.length_take]; have := HN.out; omega
   have hlen := shL_len b.1 (show k ≤ b.1.length by rw [HN.out]; exact hk)
   obtain ⟨ao, co, rfl⟩ := hrow.shape
   have hou : g.2.2.1 = outG g := rfl
   unfold agU at HSg
   rw [hou] at HSg
   have hfo := fun W => fieldOut g.2.1 (outG g) g.2.2.2.1 g.2.2.2.2 W
   rw [hlen]
   rw [hlen] at HRw
   clear hg hrow hwr hb1 hou n1
   generalize outG g = n at *
   generalize outsG (b.1.take k) = O at *
   generalize nameG g = ng at *
   generalize g.1.2 = gp at *
   generalize g.2.1 = g1 at *
   generalize g.2.2.2.1 = g3 at *
   generalize g.2.2.2.2 = g4 at *
   generalize hM : shL b.1 k = M at *
   have HLm : Hid (M.length = k) := hlen
   clear hlen hM
   have hwO : IntKind.i64.wrap (O + n) = O + n := by rw [IntKind.wrap_i64]; omega
   go_wp2_with (first
    | (go_at_call 26; refine HSg.out.mono ?_; rintro r w5 ⟨rfl, hb5⟩; have HB5 : Hid (Below w1.heap.size w1 w5) := HB2.out.trans (hb5.mono HB2.out.size); have HOd : Hid (w5.ownsRow w1.heap.size 114 2 (.slice ao k co) k (encE.flat M)) := (by have h6 := HRw.out.below hb5; unfold Enc.Row at h6; rw [HLm.out] at h6; exact h6); clear hb5)
    | (at_builtin; refine wpList_append_own _ rfl _ _ 109 rfl w1.heap.size 114 i0 _ 2 16 Tryz.underlying109 hi hz0 hz1 hz2 rfl (by decide) (.slice ao k co) k (encE.flat M) rfl (HOd.out.alloc _) ⟨w5.heap.size, 0, none⟩ 1 1 (encE.enc (k, n)) rfl rfl (World.news_of_block (heap_alloc_new w5 _)) (encE.one _) (by unfold maxLen; omega) (by omega) (by have := HB5.out.size; simp; omega) ?_; intro v7 w7 own7 gr7 _; have HO7 : Hid (w7.ownsRow w1.heap.size 114 2 v7 (k + 1) (encE.flat M ++ encE.enc (k, n))) := own7; have HB7 : Hid (Below w1.heap.size w1 w7) := (HB5.out.alloc HB5.out.size _).grown gr7 (by have := HB5.out.size; simp; omega) (fun kk hkk => (HOd.out.lt kk hkk).1); clear own7 gr7))
   go_roundw
   case rel => exact ⟨k + 1, _, by omega, by go_num, by rw [HOs.out], rfl, by rw [HSs.out]; unfold Enc.Row; rw [List.length_append, HLm.out, encE.flat_append, encE.flat_one]; exact HO7.out, fun h => absurd h (Nat.succ_ne_zero _), HB7.out⟩
   case measure => simp [RowKit.intOf]; omega
  ·have hkn : k = ln := by omega
   have e : b.1.take k = b.1 := List.take_of_length_le (by rw [HN.out]; omega)
   rw [e]
   subst hkn
   have HRow : Hid (encE.Row wr w1.heap.size 114 vout (shL b.1 k)) := hrow
   have HBE : Hid (Below w.heap.size w wr) := HB1.out.trans (hwr.mono HB1.out.size)
   clear hrow hwr e
   go_wp2
   exact bodyPost_ret (v := .tuple #[vout, .int .i64 (outsG b.1)]) (by simp [results, Tryz.results46, go_sem]) rfl ⟨vout, rfl, HRow.out.base HB1.out.size, HZ.out, HBE.out⟩
theorem ownS_set {w : World} {B g n cap k : Nat} {T : TypeId} {xs : List Value} (h : w.ownsRow B T k (.slice (some ⟨g, 0, none⟩) n cap) n xs) {p : Nat} (v : Value) : (w.setCell ⟨g, p, none⟩ v).ownsRow B T k (.slice (some ⟨g, 0, none⟩) n cap) n (xs.set p v) := by
 refine ⟨by rw [List.length_set]; exact h.1, ?_⟩
 rcases h.2 with ⟨h1, _⟩ | ⟨g', cap', cur, hv, hB, hg, h3, h4, h5, h6⟩
 ·cases h1
 ·injection hv with a1 a2 a3
  injection a1 with a1
  injection a1 with a1
  subst a1 a3
  refine Or.inr ⟨g, cap, cur.setIfInBounds p v, rfl, hB, Joins.block_setCell hg v, h3, h4, by rw [Array.size_setIfInBounds]; exact h5, ?_⟩
  rw [← h6, Array.toList_setIfInBounds, List.take_set]
theorem ownS_kept {w w' : World} {B g n cap k : Nat} {T : TypeId} {xs : List Value} (h : w.ownsRow B T k (.slice (some ⟨g, 0, none⟩) n cap) n xs) (hb : w'.heap[g]? = w.heap[g]?) : w'.ownsRow B T k (.slice (some ⟨g, 0, none⟩) n cap) n xs := by
 refine ⟨h.1, ?_⟩
 rcases h.2 with ⟨h1, _⟩ | ⟨g', cap', cur, hv, hB, hg, h3⟩
 ·cases h1
 ·injection hv with a1 a2 a3
  injection a1 with a1
  injection a1 with a1
  subst a1 a3
  exact Or.inr ⟨g, cap, cur, rfl, hB, hb.trans hg, h3⟩
def ToldC (m : List Gs) (d : Array Sh) (p : Nat) (ts : List ByteArray) : Prop := ts.length = m.length ∧ ∀ q i g, q < p → d[q]! = (i, outG g) → m[i]? = some g → ts[i]? = some (classAt m i g)
theorem ToldC.next {m : List Gs} {d : Array Sh} {p i : Nat} {ts : List ByteArray} {g : Gs} (h : ToldC m d p ts) (e : d[p]! = (i, outG g)) (hg : m[i]? = some g) : ToldC m d (p + 1) (ts.set i (classAt m i g)) := by
 have hi := (List.getElem?_eq_some_iff.1 hg).1
 refine ⟨by rw [List.length_set]; exact h.1, fun q j y hq e2 hy => ?_⟩
 rw [List.getElem?_set]
 by_cases hij : i = j
 ·subst hij
  rw [hg] at hy
  cases hy
  rw [if_pos rfl, if_pos (by rw [h.1]; exact hi)]
 ·rw [if_neg hij]
  rcases Nat.lt_or_ge q p with h9 | h9
  ·exact h.2 q j y h9 e2 hy
  ·obtain rfl : q = p := by omega
   rw [e] at e2
   exact absurd (congrArg Prod.fst e2) hij
theorem ToldC.all {m : List Gs} {d : Array Sh} {ts : List ByteArray} (h : ToldC m d m.length ts) (hR : RkOf m d) : ts = classesG m m.length := by
 apply List.ext_getElem?
 intro i
 rcases Nat.lt_or_ge i m.length with hi | hi
 ·obtain ⟨p, hp, e⟩ := hR.all i hi
  obtain ⟨j, g, hg, e2⟩ := hR.from_ p hp
  rw [e2] at e
  simp only at e
  subst e
  rw [h.2 p j g hp e2 hg, classesG_at m (Nat.le_refl _) hi hg]
 ·rw [List.getElem?_eq_none (by rw [h.1]; exact hi), List.getElem?_eq_none (by rw [classesG_len m (Nat.le_refl _)]; exact hi)]
theorem sumA_bound {m : List Gs} {d : Array Sh} (hOk : OutOk m) (h30 : m.length ≤ 30) (hR : RkOf m d) {p : Nat} (hp : p < m.length) : 0 ≤ sumA d p ∧ sumA d p ≤ 1979120929996800 := by
 obtain ⟨i, g, hg, e⟩ := hR.from_ p hp
 rw [hR.front hp e]
 obtain ⟨h1, h2⟩ := frontG_bound hOk (outG g) i m.length
 omega
theorem madeTx (n : Nat) : (madeCells (Value.string ⟨#[]⟩).cells (n * 1)).toList = (List.replicate n (⟨#[]⟩ : ByteArray)).map Value.string := by
 rw [List.map_replicate, List.eq_replicate_iff]
 refine ⟨by rw [Array.length_toList, size_madeCells, Nat.mul_one], fun v hv => ?_⟩
 unfold madeCells at hv
 rw [Array.toList_map] at hv
 obtain ⟨i, _, rfl⟩ := List.mem_map.1 hv
 have h1 : (Value.string ⟨#[]⟩).cells.size = 1 := rfl
 rw [h1, Nat.mod_one]
 rfl
theorem classes_no (w : World) (p : Value) (hp : ∀ W, Below w.heap.size w W → Calls Tryz.prog 46 #[p] W fun e w' => (∃ n, e = .returned (.tuple #[.slice none 0 0, .int .i64 n])) ∧ Below W.heap.size W w') :
  Calls Tryz.prog 20 #[p] w fun e w' => (∃ q c, e = .returned (.slice q 0 c)) ∧ Below w.heap.size w w' := by
 obtain ⟨i0, hi, hz0, hz1, hz2⟩ := info_parts Tryz.infoTx
 have HP : Hid (Calls Tryz.prog 46 #[p] w _) := hp w (Below.refl _ _)
 have hso := fun W => sortShares_none W
 clear hp
 go_enter Tryz.func20, Tryz.ntmps20
 go_wp2_with (first
  | (go_at_call 46; refine HP.out.mono ?_; rintro r w1 ⟨⟨n, rfl⟩, hb1⟩; have HB1 : Hid (Below w.heap.size w w1) := hb1; clear hb1)
  | (go_at_call 47; refine (hso _).mono ?_; rintro r w2 ⟨rfl, hw⟩; have hw' := hw.symm; subst hw')
  | (refine wpList_make_full _ rfl _ _ 57 rfl w1.heap.size 9 i0 _ 1 Tryz.underlying57 hi hz0 hz1 .i64 .i64 _ _ 0 rfl rfl rfl rfl (by rw [hz2]; omega) (by unfold maxLen; omega) (Nat.le_refl _) ?_; intro w3 own3 gr3; have HB3 : Hid (Below w.heap.size w w3) := HB1.out.trans ((⟨gr3.os, gr3.tape, gr3.output, gr3.size, fun k hk => gr3.block k hk (by simp)⟩ : Below w1.heap.size w1 w3).mono HB1.out.size); clear own3 gr3))
 refine wp_loop_rounds 1 ?_
 rw [rounds_succ]
 go_wp2
 go_ret
 exact ⟨⟨_, _, rfl⟩, HB3.out⟩
theorem classes_some (w : World) (B : Nat) (x : Bl) (b : Bk) (hI : IsBk w B x b) (hne : 0 < b.1.length) :
  Calls Tryz.prog 20 #[.pointer (some ⟨x.p, 0, none⟩)] w fun e w' => (∃ p c, e = .returned (.slice p b.1.length c) ∧ Txs w' p (classesG b.1 b.1.length)) ∧ Below w.heap.size w w' := by
 obtain ⟨i0, hi, hz0, hz1, hz2⟩ := info_parts Tryz.infoTx
 have hok := hI.ok
 have hOk := outOk_bk hok.wf
 have hg30 := hok.wf.gl
 have hlS := shL_len b.1 (Nat.le_refl _)
 have HSh : Hid (Calls Tryz.prog 46 #[.pointer (some ⟨x.p, 0, none⟩)] w fun e w' => ∃ g cap, e = .returned (.tuple #[.slice (some ⟨g, 0, none⟩) b.1.length cap, .int .i64 (outsG b.1)]) ∧ w.heap.size ≤ g ∧ g < w'.heap.size ∧ HoldsK encSh 2 w' g 0 (shL b.1 b.1.length).toArray ∧ Below w.heap.size w w') := (shares_any w B x b hI).mono fun e w' ⟨v, h1, h2, h3, h4⟩ => by
  have h5 := h2
  rcases h2.2 with ⟨hv, h0⟩ | ⟨g, cap, cur, hv, hB, hg, _⟩
  ·rw [hlS] at h0; omega
  ·subst hv
   rw [hlS] at h1
   exact ⟨g, cap, h1, hB, (Array.getElem?_eq_some_iff.1 hg).1, own_holdsSh h5, h4⟩
 have HSo : Hid (∀ W g cap, g < W.heap.size → w.heap.size ≤ W.heap.size → w.heap.size ≤ g → HoldsK encSh 2 W g 0 (shL b.1 b.1.length).toArray → Calls Tryz.prog 47 #[.slice (some ⟨g, 0, none⟩) b.1.length cap, .func (.func 48) #[] #[]] W fun e w' => e = .returned (.tuple #[]) ∧ ∃ d, RkOf b.1 d ∧ HoldsK encSh 2 w' g 0 d ∧ Below w.heap.size W w') := fun W g cap hlt hsz hgb hH => by
  have hs : (shL b.1 b.1.length).toArray.size = b.1.length := by rw [List.size_toArray, hlS]
  have := sortStable_anyC g 0 cap (shL b.1 b.1.length).toArray W hH hlt (by rw [hs]; omega)
  rw [hs] at this
  refine this.mono fun e w' ⟨h1, d, h2, h3⟩ => ?_
  have h4 : SWK encSh 2 W g 0 d w' := h3.2
  refine ⟨h1, d, rkOf (shOf_shL b.1) h2, SWK.holds h4 hlt hH (by rw [h3.1, hs]), ?_⟩
  obtain ⟨m, os, rfl⟩ := h4
  exact below_sortSh W g 0 m d os hsz hgb
 have HOk : Hid (OutOk b.1) := hOk
 have H30 : Hid (b.1.length ≤ 30) := hg30
 have HNe : Hid (0 < b.1.length) := hne
 have hall := outsG_bound hOk
 obtain ⟨ln, hln⟩ : ∃ ln, b.1.length = ln := ⟨_, rfl⟩
 have HN : Hid (b.1.length = ln) := hln
 obtain ⟨all, hal⟩ : ∃ all, outsG b.1 = all := ⟨_, rfl⟩
 have HAll : Hid (outsG b.1 = all) := hal
 rw [hal] at HSh hall
 obtain ⟨cls, hcls⟩ : ∃ cls, classesG b.1 b.1.length = cls := ⟨_, rfl⟩
 have HCls : Hid (classesG b.1 b.1.length = cls) := hcls
 obtain ⟨shs, hshs⟩ : ∃ shs, shL b.1 b.1.length = shs := ⟨_, rfl⟩
 rw [hcls]
 rw [hshs] at HSh HSo
 rw [hln] at HSh HSo hg30 hall ⊢
 obtain ⟨l0, l1⟩ := hall
 clear hI hok hOk hlS hln hal hcls hshs hne
 go_enter Tryz.func20, Tryz.ntmps20
 go_wp2_with (first
  | (go_at_call 46; refine HSh.out.mono ?_; rintro r w1 ⟨g, cap, rfl, hgb, hgl, hH, hb1⟩; have HB1 : Hid (Below w.heap.size w w1) := hb1; have HH1 : Hid (g < w1.heap.size ∧ w.heap.size ≤ g ∧ HoldsK encSh 2 w1 g 0 shs.toArray) := ⟨hgl, hgb, hH⟩; clear hb1 hgb hgl hH)
  | (go_at_call 47; refine (HSo.out w1 g cap HH1.out.1 HB1.out.size HH1.out.2.1 HH1.out.2.2).mono ?_; rintro r w2 ⟨rfl, d, hR, hH2, hb2⟩; have HR : Hid (RkOf b.1 d) := hR; have HH2 : Hid (HoldsK encSh 2 w2 g 0 d) := hH2; have HB2 : Hid (Below w.heap.size w w2) := HB1.out.trans hb2; have HG2 : Hid (g < w2.heap.size) := Nat.lt_of_lt_of_le HH1.out.1 hb2.size; clear hR hH2 hb2)
  | (refine wpList_make_full _ rfl _ _ 57 rfl w2.heap.size 9 i0 _ 1 Tryz.underlying57 hi hz0 hz1 .i64 .i64 _ _ ln rfl rfl rfl rfl (by rw [hz2]; omega) (by unfold maxLen; omega) (Nat.le_refl _) ?_; intro w3 own3 gr3; have HB3 : Hid (Below w2.heap.size w2 w3) := ⟨gr3.os, gr3.tape, gr3.output, gr3.size, fun k hk => gr3.block k hk (by simp)⟩; have HO3 : Hid (w3.ownsRow w2.heap.size 9 1 (.slice (some ⟨w2.heap.size, 0, none⟩) ln ln) ln _) := own3; clear own3 gr3))
 have HO4 : Hid (w3.ownsRow w2.heap.size 9 1 (.slice (some ⟨w2.heap.size, 0, none⟩) ln ln) ln ((List.replicate ln (⟨#[]⟩ : ByteArray)).map Value.string)) := by
  have h9 := HO3.out
  rw [madeTx] at h9
  exact h9
 clear HO3
 obtain ⟨gC, hgC⟩ : ∃ gC, w2.heap.size = gC := ⟨_, rfl⟩
 have HGC : Hid (w2.heap.size = gC) := hgC
 rw [hgC] at HB3 HO4 HG2 ⊢
 clear hgC
 go_loopw [6, 21] (fun va vi wr => ∃ p : Nat, p ≤ ln ∧ vi = .int .i64 p ∧ va = .int .i64 (sumA d p) ∧ (∃ ts, ToldC b.1 d p ts ∧ wr.ownsRow gC 9 1 (.slice (some ⟨gC, 0, none⟩) ln ln) ln (ts.map Value.string)) ∧ gC < wr.heap.size ∧ Below gC w2 wr) (fun _ vi _ => ln - (RowKit.intOf vi).toNat)
 case atStart => exact ⟨0, Nat.zero_le _, rfl, rfl, ⟨List.replicate ln ⟨#[]⟩, ⟨by rw [List.length_replicate, HN.out], fun q i g hq => absurd hq (Nat.not_lt_zero _)⟩, HO4.out⟩, (HO4.out.lt gC rfl).2, HB3.out⟩
 case round =>
  obtain ⟨p, hp, rfl, rfl, ⟨ts, hT, hown⟩, hgl, hwr⟩ := hrel
  by_cases hlt : p < ln
  ·have hpm : p < b.1.length := by rw [HN.out]; exact hlt
   obtain ⟨i, gi, hgi, hdp⟩ := HR.out.from_ p hpm
   obtain ⟨c0, c1⟩ := holds_cells HH2.out (show p < d.size by rw [HR.out.size]; exact hpm)
   rw [hdp] at c0 c1
   simp only at c0 c1
   have q0 := (hwr.cell (p := ⟨g, p * 2, none⟩) HG2.out).trans c0
   have q1 := (hwr.cell (p := ⟨g, p * 2 + 1, none⟩) HG2.out).trans c1
   obtain ⟨W1, hW1⟩ : ∃ W1, wr.alloc (.cells #[.int .i64 (i : Int), .int .i64 (outG gi)] 114) = W1 := ⟨_, rfl⟩
   have n1 : W1.heap[wr.heap.size]? = _ := hW1 ▸ heap_alloc_new wr (.cells #[.int .i64 (i : Int), .int .i64 (outG gi)] 114)
   have f0 : W1.cell? ⟨wr.heap.size, 0, none⟩ = some (.int .i64 (i : Int)) := by rw [cell_of_heap n1]; rfl
   have f1 : W1.cell? ⟨wr.heap.size, 1, none⟩ = some (.int .i64 (outG gi)) := by rw [cell_of_heap n1]; rfl
   have hb1 : Below wr.heap.size wr W1 := hW1 ▸ (Below.refl _ wr).alloc (Nat.le_refl _) _
   have him : i < b.1.length := (List.getElem?_eq_some_iff.1 hgi).1
   have hil : i < ln := by rw [← HN.out]; exact him
   obtain ⟨Wd, hWd⟩ : ∃ Wd, W1.drew = Wd := ⟨_, rfl⟩
   have m0 : Wd.cell? ⟨wr.heap.size, 0, none⟩ = some (.int .i64 (i : Int)) := hWd ▸ f0
   have m1 : Wd.cell? ⟨wr.heap.size, 1, none⟩ = some (.int .i64 (outG gi)) := hWd ▸ f1
   have hbd : Below wr.heap.size wr Wd := hWd ▸ hb1.drew
   have hownd : Wd.ownsRow gC 9 1 (.slice (some ⟨gC, 0, none⟩) ln ln) ln (ts.map Value.string) := ownS_kept hown (hbd.block gC hgl)
   have hts : ts.length = ln := by rw [hT.1, HN.out]
   obtain ⟨t, ht⟩ : ∃ t, ts[i]? = some t := ⟨_, List.getElem?_eq_getElem (by rw [hts]; exact hil)⟩
   have zc : Wd.cell? ⟨gC, i, none⟩ = some (.string t) := by
    rw [World.ownsRow.cellAt hownd i (by omega), List.getElem?_map, ht]; rfl
   have zf : Wd.frozen? ⟨gC, i, none⟩ = false := hownd.frozenAt i
   obtain ⟨W2, hW2⟩ : ∃ W2, Wd.setCell ⟨gC, i, none⟩ (.string (classAt b.1 i gi)) = W2 := ⟨_, rfl⟩
   have hgne : wr.heap.size ≠ gC := by omega
   have hk : ∀ o, W2.cell? ⟨wr.heap.size, o, none⟩ = Wd.cell? ⟨wr.heap.size, o, none⟩ := fun o => by
    rw [← hW2]
    exact World.cell?_of_block (a := ⟨wr.heap.size, o, none⟩) (Below.heap_setCell _ ⟨gC, i, none⟩ _ _ hgne)
   have k0 := (hk 0).trans m0
   have k1 := (hk 1).trans m1
   have hs2 : W2.heap.size = Wd.heap.size := by rw [← hW2, World.size_setCell]
   have HBE : Hid (Below gC w2 W2 ∧ gC < W2.heap.size) := by
    refine ⟨?_, by rw [hs2]; exact Nat.lt_of_lt_of_le hgl hbd.size⟩
    rw [← hW2]
    exact (hwr.trans (hbd.mono (Nat.le_of_lt hgl))).setCell (Nat.le_refl _) _
   have HOE : Hid (ToldC b.1 d (p + 1) (ts.set i (classAt b.1 i gi)) ∧ W2.ownsRow gC 9 1 (.slice (some ⟨gC, 0, none⟩) ln ln) ln ((ts.set i (classAt b.1 i gi)).map Value.string)) := by
    refine ⟨hT.next hdp hgi, ?_⟩
    rw [List.map_set, ← hW2]
    exact ownS_set hownd _
   have hfr := HR.out.front hpm hdp
   obtain ⟨s0, s1⟩ := sumA_bound HOk.out H30.out HR.out hpm
   obtain ⟨o3, o4⟩ := HOk.out gi (List.mem_of_getElem? hgi)
   have hcl : classG all (sumA d p) = classAt b.1 i gi := by
    unfold classAt
    rw [← hfr, HAll.out]
   have HSu : Hid (sumA d (p + 1) = sumA d p + outG gi) := by
    show sumA d p + (d[p]!).2 = _
    rw [hdp]
   have HCo : Hid (∀ W, Calls Tryz.prog 50 #[.int .i64 (sumA d p), .int .i64 all] W fun e w' => e = .returned (.string (classAt b.1 i gi)) ∧ w' = W) := fun W => by
    have := classOf_any (sumA d p) all s0 (by omega) l0 (by rw [← HN.out] at hg30; have := H30.out; have h9 := l1; rw [← HN.out] at h9; omega) W
    rw [hcl] at this
    exact this
   have hiz : (i : Int) < (ln : Int) := by omega
   have hi0 : (0 : Int) ≤ (i : Int) := by omega
   clear hT hown hwr hb1 hbd hownd hts ht hk hs2 hfr hcl c0 c1 n1 hdp hgi him
   generalize classAt b.1 i gi = cc at *
   generalize outG gi = n at *
   generalize sumA d p = O at *
   have hwO : IntKind.i64.wrap (O + n) = O + n := by rw [IntKind.wrap_i64]; omega
   go_wp2
   go_region_held3 (fun w' => w'.cell? ⟨wr.heap.size, 0, none⟩ = some (.int .i64 (i : Int)) ∧ w'.cell? ⟨wr.heap.size, 1, none⟩ = some (.int .i64 n)) (go_keep) (first | (go_at_call 50; refine (HCo.out _).mono ?_; rintro r w6 ⟨rfl, hw6⟩; have hw6' := hw6.symm; subst hw6'))
   go_wp2
   go_roundw
   case rel => exact ⟨p + 1, by omega, by go_num, by rw [HSu.out], ⟨_, HOE.out⟩, HBE.out.2, HBE.out.1⟩
   case measure => simp [RowKit.intOf]; omega
  ·have hkn : p = b.1.length := by rw [HN.out]; omega
   have hcs : ts = cls := by
    rw [← HCls.out]
    subst hkn
    exact hT.all HR.out
   have HBE : Hid (Below w.heap.size w wr) := HB2.out.trans (hwr.mono (by have := HB2.out.size; have := HGC.out; omega))
   have HTx : Hid (Txs wr (some ⟨gC, 0, none⟩) cls) := fun j s hj => by
    have hj1 := (List.getElem?_eq_some_iff.1 hj).1
    refine ⟨gC, 0, rfl, ?_⟩
    rw [Nat.zero_add, World.ownsRow.cellAt hown j (by rw [← hcs] at hj1; have := hT.1; have := HN.out; omega), List.getElem?_map, hcs, hj]; rfl
   clear hT hown hwr hcs
   go_wp2
   go_ret
   exact ⟨⟨_, _, rfl, HTx.out⟩, HBE.out⟩
theorem countC_any (s : Nat → Addr) : CountC s where
 classes W B x b hI := by
  rcases Nat.eq_zero_or_pos b.1.length with h0 | h0
  ·refine (classes_no W (.pointer (some ⟨x.p, 0, none⟩)) fun W' hb => (shares_any W' B x b (hI.below hb)).mono fun e w' ⟨v, h1, _, h3, h4⟩ => ⟨⟨outsG b.1, by rw [h1, h3 h0]⟩, h4⟩).mono fun e w' ⟨⟨q, c, h1⟩, h2⟩ => ⟨⟨q, c, by rw [h1, h0], fun j t hj => ?_⟩, h2⟩
   rw [h0] at hj
   cases hj
  ·exact classes_some W B x b hI h0
end Go.Proofs.YtppodkkefegbkaaGreatDoor
namespace Go.Proofs.YtppodkkefegbkaaGreatDoor
open Go.RowKit Go.Lib Go.Sort
abbrev EnIn (w : World) (pp : Option Addr) (l : List En) : Prop := l = [] ∨ ∃ bq off, pp = some ⟨bq, off, none⟩ ∧ Ents w bq off l
theorem EnIn.line {w W : World} {pp : Option Addr} {l : List En} (h : EnIn w pp l) (hb : Below w.heap.size w W) {k : Nat} {x : En} (hx : l[k]? = some x) : ∃ bq off, pp = some ⟨bq, off, none⟩ ∧ EntO W bq (off + k * 14) x := by
 rcases h with rfl | ⟨bq, off, h1, h2⟩
 ·simp at hx
 ·exact ⟨bq, off, h1, (h2.below h2.lt hb).at_ k x hx⟩
theorem eix_any (g : Nat) (cb : Array Value) (p : En → Bool) (eg : ∀ args w, (callFunc g args).run Tryz.prog w = .ok (.enter g args) w) (pp : Option Addr) (l : List En) (cap : Nat) (w : World) (h : EnIn w pp l) (hn : l.length ≤ 1000)
  (hf : ∀ (x : En), x ∈ l → ∀ W : World, Below w.heap.size w W → Calls Tryz.prog g ((#[agE x] : Array Value) ++ cb) W fun e w' => e = .returned (.bool (p x)) ∧ Below W.heap.size W w') :
  Calls Tryz.prog 83 #[.slice pp l.length cap, .func (.func g) #[] cb] w fun e w' => ((e = .returned (.int .i64 (-1)) ∧ ∀ (j : Nat) (y : En), l[j]? = some y → p y = false) ∨ ∃ (k : Nat) (x : En), l[k]? = some x ∧ p x = true ∧ (∀ (j : Nat) (y : En), j < k → l[j]? = some y → p y = false) ∧ e = .returned (.int .i64 (k : Int))) ∧ Below w.heap.size w w' := by
 have HE : Hid (∀ (W : World) (k : Nat) (x : En), Below w.heap.size w W → l[k]? = some x → ∃ bq off, pp = some ⟨bq, off, none⟩ ∧ EntO W bq (off + k * 14) x) := fun W k x hb hx => EnIn.line h hb hx
 have HF : Hid (∀ (x : En), x ∈ l → ∀ W : World, Below w.heap.size w W → Calls Tryz.prog g ((#[agE x] : Array Value) ++ cb) W fun e w' => e = .returned (.bool (p x)) ∧ Below W.heap.size W w') := hf
 obtain ⟨ln, hln⟩ : ∃ ln, l.length = ln := ⟨_, rfl⟩
 have HN : Hid (ln = l.length) := hln.symm
 rw [hln] at hn ⊢
 clear h hf hln
 go_enter Tryz.func83, Tryz.ntmps83
 go_wp2
 go_loopw [5, 8] (fun _ vi wr => ∃ k : Nat, k ≤ ln ∧ vi = .int .i64 k ∧ Below w.heap.size w wr ∧ ∀ (j : Nat) (y : En), j < k → l[j]? = some y → p y = false) (fun _ vi _ => ln - (RowKit.intOf vi).toNat)
 case atStart => exact ⟨0, Nat.zero_le _, rfl, Below.refl _ _, fun j y hj => absurd hj (Nat.not_lt_zero _)⟩
 case round =>
  obtain ⟨k, hk, rfl, hb, hno⟩ := hrel
  have HB : Hid (Below w.heap.size w wr) := hb
  have HS : Hid (∀ (j : Nat) (y : En), j < k → l[j]? = some y → p y = false) := hno
  clear hno
  by_cases hlt : k < ln
  ·obtain ⟨x, hx⟩ : ∃ x, l[k]? = some x := ⟨_, List.getElem?_eq_getElem (by rw [← HN.out]; exact hlt)⟩
   have HX : Hid (l[k]? = some x) := hx
   obtain ⟨bq, off, rfl, c0, c1, c2, c3, c4, c5, c6, c7, c8, c9, c10, c11, c12, c13⟩ := HE.out wr k x hb hx
   have hC := HF.out x (List.mem_of_getElem? hx) wr hb
   have HS1 : Hid (p x = false → ∀ (j : Nat) (y : En), j < k + 1 → l[j]? = some y → p y = false) := fun hq j y hj hy => by
    rcases Nat.lt_or_ge j k with q | q
    ·exact HS.out j y q hy
    ·obtain rfl : j = k := by omega
     rw [HX.out] at hy
     cases hy
     exact hq
   have hltz : (k : Int) < (ln : Int) := by omega
   clear hx hb
   cases hq : p x with
   | true =>
    rw [hq] at hC
    have HQ : Hid (p x = true) := hq
    have HC : Hid (Calls Tryz.prog g ((#[agE x] : Array Value) ++ cb) wr _) := hC
    clear hq hC
    obtain ⟨x', hx'⟩ : ∃ x', x = x' := ⟨_, rfl⟩
    obtain ⟨ak, ⟨agc, agp⟩, ⟨ali, alc, alu, alk⟩, ⟨afz, afr, afb⟩, ⟨atz, atr, atb⟩, an⟩ := x
    simp only at c0 c1 c2 c3 c4 c5 c6 c7 c8 c9 c10 c11 c12 c13
    unfold agE at HC
    go_wp2_with (go_at_fn g; refine HC.out.mono ?_; rintro r w2 ⟨rfl, hb2⟩; have HB2 : Hid (Below w.heap.size w w2) := HB.out.trans (hb2.mono HB.out.size); clear hb2)
    go_ret
    exact ⟨Or.inr ⟨k, _, HX.out, HQ.out, HS.out, rfl⟩, HB2.out⟩
   | false =>
    rw [hq] at hC
    have HQ : Hid (p x = false) := hq
    have HC : Hid (Calls Tryz.prog g ((#[agE x] : Array Value) ++ cb) wr _) := hC
    clear hq hC
    obtain ⟨ak, ⟨agc, agp⟩, ⟨ali, alc, alu, alk⟩, ⟨afz, afr, afb⟩, ⟨atz, atr, atb⟩, an⟩ := x
    simp only at c0 c1 c2 c3 c4 c5 c6 c7 c8 c9 c10 c11 c12 c13
    unfold agE at HC
    go_wp2_with (go_at_fn g; refine HC.out.mono ?_; rintro r w2 ⟨rfl, hb2⟩; have HB2 : Hid (Below w.heap.size w w2) := HB.out.trans (hb2.mono HB.out.size); clear hb2)
    go_roundw
    case rel => exact ⟨k + 1, by omega, by go_num, HB2.out, HS1.out HQ.out⟩
    case measure => simp [RowKit.intOf]; omega
  ·have HA : Hid (∀ (j : Nat) (y : En), l[j]? = some y → p y = false) := fun j y hy => HS.out j y (by have := (List.getElem?_eq_some_iff.1 hy).1; rw [← HN.out] at this; omega) hy
   go_wp2
   go_ret
   exact ⟨Or.inl ⟨rfl, HA.out⟩, HB.out⟩
theorem ect_any (g : Nat) (cb : Array Value) (p : En → Bool) (eg : ∀ args w, (callFunc g args).run Tryz.prog w = .ok (.enter g args) w) (pp : Option Addr) (l : List En) (cap : Nat) (w : World) (h : EnIn w pp l) (hn : l.length ≤ 1000)
  (hf : ∀ (x : En), x ∈ l → ∀ W : World, Below w.heap.size w W → Calls Tryz.prog g ((#[agE x] : Array Value) ++ cb) W fun e w' => e = .returned (.bool (p x)) ∧ Below W.heap.size W w') :
  Calls Tryz.prog 53 #[.slice pp l.length cap, .func (.func g) #[] cb] w fun e w' => e = .returned (.bool (l.any p)) ∧ Below w.heap.size w w' := by
 have hI : Calls Tryz.prog 83 #[.slice pp l.length cap, .func (.func g) #[] cb] w fun e w' => (∃ n : Int, e = .returned (.int .i64 n) ∧ l.any p = decide (0 ≤ n)) ∧ Below w.heap.size w w' := (eix_any g cb p eg pp l cap w h hn hf).mono fun e w' ⟨h1, h2⟩ => by
  refine ⟨?_, h2⟩
  rcases h1 with ⟨rfl, h3⟩ | ⟨k, x, hx, hp, _, rfl⟩
  ·refine ⟨-1, rfl, ?_⟩
   rw [decide_eq_false (by omega), List.any_eq_false]
   intro y hy
   obtain ⟨j, hj⟩ := List.getElem?_of_mem hy
   rw [h3 j y hj]; decide
  ·refine ⟨k, rfl, ?_⟩
   rw [decide_eq_true (by omega)]
   exact List.any_eq_true.2 ⟨x, List.mem_of_getElem? hx, hp⟩
 have HI : Hid (Calls Tryz.prog _ _ _ _) := hI
 generalize l.length = ln at *
 clear h hn hf hI
 go_enter Tryz.func53, Tryz.ntmps53
 go_wp2_with (go_at_call 83; refine HI.out.mono ?_; rintro r w2 ⟨⟨n, rfl, hd⟩, hb2⟩; have HD : Hid (l.any p = decide (0 ≤ n)) := hd; have HB2 : Hid (Below w.heap.size w w2) := hb2; clear hb2 hd)
 go_ret
 exact ⟨by rw [HD.out]; rfl, HB2.out⟩
theorem over_any (e : En) (most : Int) (n : Nat) (w : World) (hc : w.cell? ⟨n, 0, none⟩ = some (.int .i64 most)) : Calls Tryz.prog 54 #[agE e, .pointer (some ⟨n, 0, none⟩)] w fun r w' => r = .returned (.bool (decide (most < e.2.2.2.2.2))) ∧ Below w.heap.size w w' := by
 obtain ⟨U, hU⟩ : ∃ U, w.alloc (celE e) = U := ⟨_, rfl⟩
 have he : BlkE U w.heap.size e := hU ▸ BlkE.new w e
 have hb : Below w.heap.size w U := hU ▸ (Below.refl _ w).alloc (Nat.le_refl _) _
 have hcU : U.cell? ⟨n, 0, none⟩ = some (.int .i64 most) := (hb.cell (p := ⟨n, 0, none⟩) (cell_lt hc)).trans hc
 have HB : Hid (Below w.heap.size w U) := hb
 have c13 := he.at.c13
 unfold celE at hU
 unfold agE
 clear hb hc he
 obtain ⟨ak, ⟨agc, agp⟩, ⟨ali, alc, alu, alk⟩, ⟨afz, afr, afb⟩, ⟨atz, atr, atb⟩, an⟩ := e
 simp only at *
 by_cases h : most < an
 ·rw [decide_eq_true h]
  have h' : decide (an > most) = true := decide_eq_true h
  go_enter Tryz.func54, Tryz.ntmps54
  go_wp2
  go_ret
  exact ⟨rfl, HB.out⟩
 ·rw [decide_eq_false h]
  have h' : decide (an > most) = false := decide_eq_false h
  go_enter Tryz.func54, Tryz.ntmps54
  go_wp2
  go_ret
  exact ⟨rfl, HB.out⟩
theorem closeE_any (most : Int) (es : List En) : closeE most es = !(es.any fun e => decide (most < e.2.2.2.2.2)) := by
 unfold closeE
 rw [List.not_any_eq_all_not]
 congr 1
 funext e
 by_cases h : most < e.2.2.2.2.2
 ·rw [decide_eq_true h, decide_eq_false (by omega)]; rfl
 ·rw [decide_eq_false h, decide_eq_true (by omega)]; rfl
theorem cclose_any (p : Option Addr) (es : List En) (cap : Nat) (most : Int) (w : World) (h : EnIn w p es) (hn : es.length ≤ 1000) : Calls Tryz.prog 24 #[.slice p es.length cap, .int .i64 most] w fun e w' => e = .returned (.bool (closeE most es)) ∧ Below w.heap.size w w' := by
 obtain ⟨U, hU⟩ : ∃ U, w.alloc (.cells #[.int .i64 most] 3) = U := ⟨_, rfl⟩
 have hb : Below w.heap.size w U := hU ▸ (Below.refl _ w).alloc (Nat.le_refl _) _
 have c0 : U.cell? ⟨w.heap.size, 0, none⟩ = some (.int .i64 most) := by rw [← hU, World.cell?_alloc_at _ _ _ _ rfl]; rfl
 have eg : ∀ args w, (callFunc 54 args).run Tryz.prog w = .ok (.enter 54 args) w := enters_of Tryz.func54 (by kernel_rfl) rfl
 have hE : EnIn U p es := h.imp id fun ⟨bq, off, h1, h2⟩ => ⟨bq, off, h1, h2.below h2.lt hb⟩
 have HC : Hid (Calls Tryz.prog 53 #[.slice p es.length cap, .func (.func 54) #[] #[.pointer (some ⟨w.heap.size, 0, none⟩)]] U _) := ect_any 54 #[.pointer (some ⟨w.heap.size, 0, none⟩)] (fun e => decide (most < e.2.2.2.2.2)) eg p es cap U hE hn fun e _ W hW => over_any e most _ W ((hW.cell (p := ⟨w.heap.size, 0, none⟩) (cell_lt c0)).trans c0)
 have HB : Hid (Below w.heap.size w U) := hb
 rw [closeE_any]
 generalize (es.any fun e => decide (most < e.2.2.2.2.2)) = q at *
 generalize es.length = ln at *
 clear h hE eg hb c0
 go_enter Tryz.func24, Tryz.ntmps24
 go_wp2_with (go_at_call 53; refine HC.out.mono ?_; rintro r w2 ⟨rfl, hb2⟩; have HB2 : Hid (Below w.heap.size w w2) := HB.out.trans (hb2.mono HB.out.size); clear hb2)
 go_ret
 exact ⟨by cases q <;> rfl, HB2.out⟩
theorem cdiff_no (v : Value) (w : World) (s : Nat → Addr) (hs : Sent w s) : Calls Tryz.prog 10 #[.pointer none, v] w fun e w' => (∃ p c, e = .returned (.tuple #[.slice p 0 c, err (s 2)])) ∧ Below w.heap.size w w' := by
 obtain ⟨U, hU⟩ : ∃ U, w.alloc (.cells #[.pointer none] 27) = U := ⟨_, rfl⟩
 have hb : Below w.heap.size w U := hU ▸ (Below.refl _ w).alloc (Nat.le_refl _) _
 have c0 : U.cell? ⟨w.heap.size, 0, none⟩ = some (.pointer none) := by rw [← hU, World.cell?_alloc_at _ _ _ _ rfl]; rfl
 obtain ⟨g0, g1, g2, _⟩ := (hs.below hb).cells
 have HB : Hid (Below w.heap.size w U) := hb
 generalize s 2 = ad at *
 clear hs g0 g1 hb
 go_enter Tryz.func10, Tryz.ntmps10
 go_wp2
 go_region
 all_goals
  go_wp2
  exact bodyPost_ret (v := .tuple #[.slice none 0 0, err ad]) (by simp [results, Tryz.results10, go_sem]) rfl ⟨⟨none, 0, rfl⟩, HB.out.drew⟩
theorem whole_no (w : World) : Calls Tryz.prog 38 #[.pointer none] w fun e w' => ∃ x : Bl, e = .returned (.pointer (some ⟨x.p, 0, none⟩)) ∧ IsBk w' w.heap.size x ([], [], []) ∧ Below w.heap.size w w' := by
 have HN : Hid (Calls Tryz.prog 28 _ _ _) := bnew_any w
 go_enter Tryz.func38, Tryz.ntmps38
 go_wp2_with (go_at_call 28; refine HN.out.mono ?_; rintro e w1 ⟨x, rfl, hI, hb⟩)
 go_ret
 exact ⟨x, rfl, hI, hb⟩
theorem bgoods_no (w : World) : Calls Tryz.prog 25 #[.pointer none] w fun e w' => (∃ p c, e = .returned (.slice p 0 c)) ∧ Below w.heap.size w w' := by
 have HW : Hid (Calls Tryz.prog 38 _ _ _) := whole_no w
 have HV : Hid (∀ b w, Calls Tryz.prog 56 #[.map (some b)] w _) := fun b w => values_any b w
 have HS : Hid (∀ (w1 : World) (ps bs : Nat) (x : Bl), BkAt w1 w.heap.size x ps bs ([], [], []) → Calls Tryz.prog 55 _ (w1.alloc (.cells #[.map (some x.g)] 87)) _) := fun w1 ps bs x h => by
  have hb1 : Below w1.heap.size w1 (w1.alloc (.cells #[.map (some x.g)] 87)) := (Below.refl _ w1).alloc (Nat.le_refl _) _
  have n1 := heap_alloc_new w1 (.cells #[.map (some x.g)] 87)
  exact sortedFuncG w1.heap.size x.g [] (w1.alloc (.cells #[.map (some x.g)] 87)) (by decide) List.Pairwise.nil (by simp) (by rw [cell_of_heap n1]; rfl) (h.all hb1).G
 go_enter Tryz.func25, Tryz.ntmps25
 go_wp2_with (first
  | (go_at_call 38; refine HW.out.mono ?_; rintro e w1 ⟨x, rfl, ⟨ps, bs, hx⟩, hb1⟩; obtain ⟨p0, _⟩ := hx.cells; have HX : Hid (BkAt w1 w.heap.size x ps bs ([], [], [])) := hx; have HB1 : Hid (Below w.heap.size w w1) := hb1; clear hx hb1)
  | (go_at_call 56; refine (HV.out _ _).mono ?_; rintro e w2 ⟨rfl, rfl⟩)
  | (go_at_call 55; refine (HS.out w1 ps bs x HX.out).mono ?_; rintro e w3 ⟨v, rfl, hg, hb⟩))
 go_ret
 refine ⟨?_, (HB1.out.alloc HB1.out.size _).trans (hb.mono (by have := HB1.out.size; simp; omega))⟩
 rcases hg with ⟨rfl, _⟩ | ⟨g, cap, rfl, _⟩
 ·exact ⟨_, _, rfl⟩
 ·exact ⟨_, _, rfl⟩
theorem shares_no (w : World) : Calls Tryz.prog 46 #[.pointer none] w fun e w' => (∃ n, e = .returned (.tuple #[.slice none 0 0, .int .i64 n])) ∧ Below w.heap.size w w' := by
 have HG : Hid (Calls Tryz.prog 25 _ _ _) := bgoods_no w
 go_enter Tryz.func46, Tryz.ntmps46
 go_wp2_with (go_at_call 25; refine HG.out.mono ?_; rintro r w1 ⟨⟨p, c, rfl⟩, hb1⟩; have HB1 : Hid (Below w.heap.size w w1) := hb1; clear hb1)
 refine wp_loop_rounds 1 ?_
 rw [rounds_succ]
 go_wp2
 exact bodyPost_ret (v := .tuple #[.slice none 0 0, .int .i64 0]) (by simp [results, Tryz.results46, go_sem]) rfl ⟨⟨0, rfl⟩, HB1.out⟩
theorem countX_any (s : Nat → Addr) : CountX s where
 diffN W pp l cap hs _ _ _ _ := cdiff_no (.slice pp l.length cap) W s hs
 close W p es cap most h hn := cclose_any p es cap most W h (by omega)
 classesN W := classes_no W (.pointer none) fun W' _ => shares_no W'
end Go.Proofs.YtppodkkefegbkaaGreatDoor
