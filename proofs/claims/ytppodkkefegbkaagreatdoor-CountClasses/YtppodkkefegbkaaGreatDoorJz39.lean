/-
 The law CountClasses answers true of at most forty entries, none too long, in every memory in which the errors are laid; nothing old is turned.
-/
import Derived.Test.YtppodkkefegbkaaGreatDoorCtW
import Derived.Test.YtppodkkefegbkaaGreatDoorJz29
import Derived.Test.YtppodkkefegbkaaGreatDoorJz21
import Derived.Deep.CutRange
import Derived.Lib.QuietBelow
import Derived.BigQuiet
import Derived.Test.YtppodkkefegbkaaGreatDoorJz14
import Derived.OwnWalk
import Derived.Deep.RegionHeld3
set_option maxRecDepth 100000
set_option maxHeartbeats 16000000
namespace Go.Proofs.YtppodkkefegbkaaGreatDoor
open Go.RowKit Go.Lib Go.Sort
theorem fieldOut (a n c d : Int) (w : World) : Sem.run Tryz.prog (Instr.field 68 (.agg #[.int .i64 a, .int .i64 n, .int .i64 c, .int .i64 d]) 1) w = .ok (.int .i64 n) w := by
 have u3 := Tryz.underlying68
 have a3 := Tryz.isAgg3
 have z3 := Tryz.sizeOf3
 unfold Instr.field
 go_simp
 rfl
def anyG (m : List Gs) (k : Nat) : Bool := (m.take k).any fun g => decide (0 < outG g)
def firstG (cs : List ByteArray) (k : Nat) : Bool := (cs.take k).any fun c => decide (c = clA)
theorem anyG_succ {m : List Gs} {k : Nat} {g : Gs} (h : m[k]? = some g) : anyG m (k + 1) = (anyG m k || decide (0 < outG g)) := by
 unfold anyG
 rw [List.take_add_one, h, List.any_append]
 simp
theorem firstG_succ {cs : List ByteArray} {k : Nat} {c : ByteArray} (h : cs[k]? = some c) : firstG cs (k + 1) = (firstG cs k || decide (c = clA)) := by
 unfold firstG
 rw [List.take_add_one, h, List.any_append]
 simp
theorem classesG_at (m : List Gs) : ∀ {i : Nat}, i ≤ m.length → ∀ {j : Nat} {g : Gs}, j < i → m[j]? = some g → (classesG m i)[j]? = some (classAt m j g)
 | 0, _, _, _, hj, _ => absurd hj (Nat.not_lt_zero _)
 | i + 1, h, j, g, hj, hg => by
  obtain ⟨x, hx⟩ : ∃ x, m[i]? = some x := ⟨_, List.getElem?_eq_getElem h⟩
  rw [classesG_succ hx]
  have hl := classesG_len m (Nat.le_of_succ_le h)
  rcases Nat.lt_or_ge j i with h9 | h9
  ·rw [List.getElem?_append_left (by rw [hl]; exact h9)]
   exact classesG_at m (Nat.le_of_succ_le h) h9 hg
  ·obtain rfl : j = i := by omega
   rw [hx] at hg
   cases hg
   rw [List.getElem?_append_right (by rw [hl]; exact Nat.le_refl _), hl, Nat.sub_self]
   rfl
theorem any_first {m : List Gs} (hOk : OutOk m) : anyG m m.length = firstG (classesG m m.length) m.length := by
 unfold anyG firstG
 rw [List.take_of_length_le (Nat.le_refl _), List.take_of_length_le (by rw [classesG_len m (Nat.le_refl _)]; exact Nat.le_refl _)]
 rcases class_first hOk with ⟨⟨g, hg, h1⟩, i, x, hx, h2⟩ | ⟨h1, h2⟩
 ·have a1 : (m.any fun g => decide (0 < outG g)) = true := List.any_eq_true.2 ⟨g, hg, decide_eq_true h1⟩
  have a2 : ((classesG m m.length).any fun c => decide (c = clA)) = true := by
   refine List.any_eq_true.2 ⟨classAt m i x, List.mem_of_getElem? (classesG_at m (Nat.le_refl _) (List.getElem?_eq_some_iff.1 hx).1 hx), decide_eq_true h2⟩
  rw [a1, a2]
 ·have a1 : (m.any fun g => decide (0 < outG g)) = false := by
   rw [List.any_eq_false]
   intro g hg
   rw [h1 g hg]; decide
  have a2 : ((classesG m m.length).any fun c => decide (c = clA)) = false := by
   rw [List.any_eq_false]
   intro c hc
   obtain ⟨i, hi⟩ := List.getElem?_of_mem hc
   have hl := (List.getElem?_eq_some_iff.1 hi).1
   rw [classesG_len m (Nat.le_refl _)] at hl
   obtain ⟨g, hg⟩ : ∃ g, m[i]? = some g := ⟨_, List.getElem?_eq_getElem hl⟩
   rw [classesG_at m (Nat.le_refl _) hl hg] at hi
   cases hi
   rw [h2 i g hg]; decide
  rw [a1, a2]
theorem class_order {m : List Gs} (hOk : OutOk m) {i k : Nat} {gi gk : Gs} (h : outG gi < outG gk) : zLt (classAt m k gk) (classAt m i gi) = true ∨ (zLt (classAt m k gk) (classAt m i gi) = false ∧ classAt m k gk = classAt m i gi) := by
 have h1 := class_more hOk (i := i) (k := k) h
 have q : ∀ a b : ByteArray, (a = clA ∨ a = clB ∨ a = clC) → (b = clA ∨ b = clB ∨ b = clC) → rkC b ≤ rkC a → zLt b a = true ∨ (zLt b a = false ∧ b = a) := by
  rintro a b (rfl | rfl | rfl) (rfl | rfl | rfl) h9
  all_goals first | (exact absurd h9 (by decide)) | (exact Or.inl (by decide)) | (exact Or.inr ⟨by decide, rfl⟩)
 exact q _ _ (classG_one _ _) (classG_one _ _) h1
theorem outOk_bk {b : Bk} (hw : WfB b) : OutOk b.1 := fun g hg => by
 obtain ⟨⟨_, h1, _, _⟩, h2⟩ := hw.sums g hg
 unfold okSu mostS at h2
 simp only [Bool.and_eq_true, decide_eq_true_eq] at h2
 exact ⟨h1, h2.2.1⟩
theorem countClasses_in {s : Nat → Addr} (K : CountK s) (C : CountC s) (pp : Option Addr) (l : List En) (cap : Nat) (w : World) (hs : Sent w s) (hh : Handle w) (hz : ∀ e ∈ l, SzE e) (hr : l = [] ∨ ∃ bq off, pp = some ⟨bq, off, none⟩ ∧ Ents w bq off l) (h40 : l.length ≤ 40) (hno : longs l = false) :
  Calls Tryz.prog 5 #[.slice pp l.length cap] w fun r w' => r = .returned (.bool true) ∧ Below w.heap.size w w' := by
 have HCo : Hid (Calls Tryz.prog 6 _ _ _) := counted_any K w hs
 have HLg : Hid (∀ W, Below w.heap.size w W → Calls Tryz.prog 7 #[.slice pp l.length cap, .int .i64 40] W _) := longs_zero hz hr h40 hno
 have HOf : Hid (∀ W, Below w.heap.size w W → Calls Tryz.prog 9 #[.slice pp l.length cap] W fun e w' => ∃ x q, e = .returned (.tuple #[.pointer (some ⟨x.p, 0, none⟩), .pointer (some ⟨q, 0, none⟩), .bool true]) ∧ IsBk w' w.heap.size x (bkTo l l.length) ∧ Below w.heap.size w w') := fun W hb =>
  (bookOf_any pp l cap W s (hs.below hb) (hh.below hb) hz (ents_on hr hb) (by omega)).mono fun r w' ⟨x, Bq, q, h1, h2⟩ => ⟨x, q, h1, h2.prog.mono hb.size, hb.trans (h2.below.mono hb.size)⟩
 have hok := bkTo_ok l l.length
 generalize bkTo l l.length = b at *
 have hOk := outOk_bk hok.wf
 have hg30 := hok.wf.gl
 have HCl : Hid (∀ W x, IsBk W w.heap.size x b → Calls Tryz.prog 20 #[.pointer (some ⟨x.p, 0, none⟩)] W fun e w' => (∃ p c, e = .returned (.slice p b.1.length c) ∧ Txs w' p (classesG b.1 b.1.length)) ∧ Below W.heap.size W w') := fun W x h => C.classes W _ x b h
 have HGo : Hid (∀ W x, IsBk W w.heap.size x b → Calls Tryz.prog 25 #[.pointer (some ⟨x.p, 0, none⟩)] W fun e w' => (∃ p c, e = .returned (.slice p b.1.length c) ∧ ∀ V, Below w'.heap.size w' V → ∀ i g, b.1[i]? = some g → ∃ a, p = some ⟨a, 0, none⟩ ∧ V.cell? ⟨a, i * 2, none⟩ = some (.string (nameG g))) ∧ Below W.heap.size W w') := fun W x h => (bgoods_any W _ x b h).mono fun e w' ⟨v, h1, h2, h3⟩ => by
  rcases h2 with ⟨rfl, h0⟩ | ⟨g, c, rfl, _, _, hrow⟩
  ·exact ⟨⟨none, 0, by rw [h1, h0]; rfl, fun V hV i x hi => by rw [h0] at hi; simp at hi⟩, h3⟩
  ·exact ⟨⟨some ⟨g, 0, none⟩, c, h1, fun V hV i x hi => ⟨g, rfl, ((hrow.below hV) i x hi).1⟩⟩, h3⟩
 have HSu : Hid (∀ W x g, IsBk W w.heap.size x b → g ∈ b.1 → Calls Tryz.prog 26 #[.pointer (some ⟨x.p, 0, none⟩), .string (nameG g)] W fun e w' => e = .returned (agU g.2) ∧ Below W.heap.size W w') := fun W x g h hg => by
  have := bsums_any (nameG g) W _ x b h (h.sizeG hg)
  rw [sumsB_mem hok hg] at this
  exact this
 have HOr : Hid (∀ i k gi gk, b.1[i]? = some gi → b.1[k]? = some gk → outG gi < outG gk → zLt (classAt b.1 k gk) (classAt b.1 i gi) = true ∨ (zLt (classAt b.1 k gk) (classAt b.1 i gi) = false ∧ classAt b.1 k gk = classAt b.1 i gi)) := fun i k gi gk _ _ h => class_order hOk h
 have HAF : Hid (anyG b.1 b.1.length = firstG (classesG b.1 b.1.length) b.1.length) := any_first hOk
 have HAt : Hid (∀ j g, b.1[j]? = some g → (classesG b.1 b.1.length)[j]? = some (classAt b.1 j g)) := fun j g hg => classesG_at b.1 (Nat.le_refl _) (List.getElem?_eq_some_iff.1 hg).1 hg
 obtain ⟨cs, hcs⟩ : ∃ cs, classesG b.1 b.1.length = cs := ⟨_, rfl⟩
 rw [hcs] at HCl HAF HAt
 obtain ⟨ln, hln⟩ : ∃ ln, b.1.length = ln := ⟨_, rfl⟩
 have HN : Hid (b.1.length = ln) := hln
 rw [hln] at HCl HAF HGo hg30
 generalize l.length = le at *
 clear K C hs hh hz hr hno hok hOk hcs hln
 go_enter Tryz.func5, Tryz.ntmps5
 go_wp2_with (first
  | (go_at_call 6; refine HCo.out.mono ?_; rintro r w1 ⟨rfl, hb1⟩; have HB1 : Hid (Below w.heap.size w w1) := hb1; clear hb1)
  | (go_at_call 7; refine (HLg.out _ HB1.out).mono ?_; rintro r w2 ⟨rfl, hb2⟩; have HB2 : Hid (Below w.heap.size w w2) := HB1.out.trans (hb2.mono HB1.out.size); clear hb2)
  | (go_at_call 9; refine (HOf.out _ HB2.out).mono ?_; rintro r w4 ⟨x, q, rfl, hI4, hb4⟩; have HI4 : Hid (IsBk w4 w.heap.size x b) := hI4; have HB4 : Hid (Below w.heap.size w w4) := hb4; clear hI4 hb4)
  | (go_at_call 25; refine (HGo.out _ _ HI4.out).mono ?_; rintro r w5 ⟨⟨p5, c5, rfl, hg5⟩, hb5⟩; have HI5 : Hid (IsBk w5 w.heap.size x b) := HI4.out.below hb5; have HB5 : Hid (Below w.heap.size w w5) := HB4.out.trans (hb5.mono HB4.out.size); have HG5 : Hid (∀ V, Below w5.heap.size w5 V → ∀ i g, b.1[i]? = some g → ∃ a, p5 = some ⟨a, 0, none⟩ ∧ V.cell? ⟨a, i * 2, none⟩ = some (.string (nameG g))) := hg5; clear hg5 hb5)
  | (go_at_call 20; refine (HCl.out _ _ HI5.out).mono ?_; rintro r w6 ⟨⟨p6, c6, rfl, ht6⟩, hb6⟩; have HI6 : Hid (IsBk w6 w.heap.size x b) := HI5.out.below hb6; have HB6 : Hid (Below w.heap.size w w6) := HB5.out.trans (hb6.mono HB5.out.size); have HG6 : Hid (Below w5.heap.size w5 w6) := hb6; have HT6 : Hid (Txs w6 p6 cs) := ht6; clear ht6 hb6))
 have HGc : Hid (∀ V i g, Below w6.heap.size w6 V → b.1[i]? = some g → ∃ a, p5 = some ⟨a, 0, none⟩ ∧ V.cell? ⟨a, i * 2, none⟩ = some (.string (nameG g))) := fun V i g hV hg => HG5.out V (HG6.out.trans (hV.mono HG6.out.size)) i g hg
 have HTc : Hid (∀ V i g, Below w6.heap.size w6 V → b.1[i]? = some g → ∃ a o, p6 = some ⟨a, o, none⟩ ∧ V.cell? ⟨a, o + i, none⟩ = some (.string (classAt b.1 i g))) := fun V i g hV hg => (HT6.out.below hV) i _ (HAt.out i g hg)
 go_loopw [9, 10, 11] (fun va vf vi wr => ∃ k : Nat, k ≤ ln ∧ vi = .int .i64 k ∧ va = .bool (anyG b.1 k) ∧ vf = .bool (firstG cs k) ∧ Below w6.heap.size w6 wr) (fun _ _ vi _ => ln - (RowKit.intOf vi).toNat)
 case atStart => exact ⟨0, Nat.zero_le _, rfl, rfl, rfl, Below.refl _ _⟩
 case round =>
  obtain ⟨w0, hw0⟩ : ∃ w0, w0 = wr := ⟨_, rfl⟩
  subst hw0
  obtain ⟨i, hi, rfl, rfl, rfl, hb0⟩ := hrel
  have HB0 : Hid (Below w6.heap.size w6 w0) := hb0
  by_cases hlt : i < ln
  ·obtain ⟨g, hg⟩ : ∃ g, b.1[i]? = some g := ⟨_, List.getElem?_eq_getElem (by rw [HN.out]; exact hlt)⟩
   obtain ⟨a5, rfl, c0⟩ := HGc.out w0 i g hb0 hg
   obtain ⟨a6, o6, rfl, _⟩ := HTc.out w0 i g hb0 hg
   have HSg : Hid (Calls Tryz.prog 26 _ w0 _) := HSu.out w0 x g (HI6.out.below hb0) (List.mem_of_getElem? hg)
   have ha0 := anyG_succ hg
   have hf0 := firstG_succ (HAt.out i g hg)
   have HGi : Hid (b.1[i]? = some g) := hg
   have HTi : Hid (∀ V, Below w6.heap.size w6 V → V.cell? ⟨a6, o6 + i, none⟩ = some (.string (classAt b.1 i g))) := fun V hV => by
    obtain ⟨a9, o9, e9, h9⟩ := HTc.out V i g hV hg
    cases e9
    exact h9
   have hc3 := classG_one (outsG b.1) (frontG b.1 (outG g) i b.1.length)
   have hce : classG (outsG b.1) (frontG b.1 (outG g) i b.1.length) = classAt b.1 i g := rfl
   rw [hce] at hc3
   clear hg hb0 hce
   have hou : g.2.2.1 = outG g := rfl
   unfold agU at HSg
   rw [hou] at HSg
   clear hou
   obtain ⟨ci, hci⟩ : ∃ ci, classAt b.1 i g = ci := ⟨_, rfl⟩
   have HCi : Hid (classAt b.1 i g = ci) := hci
   rw [hci] at HTi hf0 hc3
   obtain ⟨n, hn⟩ : ∃ n, outG g = n := ⟨_, rfl⟩
   have HNn : Hid (outG g = n) := hn
   rw [hn] at HSg ha0
   generalize nameG g = ng at *
   clear hci hn
   obtain ⟨ba, hba⟩ : ∃ ba, anyG b.1 i = ba := ⟨_, rfl⟩
   obtain ⟨bf, hbf⟩ : ∃ bf, firstG cs i = bf := ⟨_, rfl⟩
   rw [hba, hbf]
   rw [hba] at ha0
   rw [hbf] at hf0
   have HAn : Hid (anyG b.1 (i + 1) = (ba || decide (0 < n))) := ha0
   have HFn : Hid (firstG cs (i + 1) = (bf || decide (ci = clA))) := hf0
   clear hba hbf ha0 hf0
   have hfo := fun W => fieldOut g.2.1 n g.2.2.2.1 g.2.2.2.2 W
   go_upto_region 17 with (go_at_call 26; refine HSg.out.mono ?_; rintro r w7 ⟨rfl, hb7⟩; have HB7 : Hid (Below w6.heap.size w6 w7) := HB0.out.trans (hb7.mono HB0.out.size); clear hb7)
   go_cut [9] from 40 to 112 (fun s9 wc => s9 = .bool (anyG b.1 (i + 1)) ∧ w7 = wc)
   case first =>
    cases ba
    ·by_cases hn0 : 0 < n
     ·have hnd : decide (n > 0) = true := decide_eq_true hn0
      have HA1 : Hid (anyG b.1 (i + 1) = true) := by show _ = _; rw [HAn.out, decide_eq_true hn0]; rfl
      go_wp2_with fail
      go_meet
      exact ⟨by rw [HA1.out], rfl⟩
     ·have hnd : decide (n > 0) = false := decide_eq_false hn0
      have HA1 : Hid (anyG b.1 (i + 1) = false) := by show _ = _; rw [HAn.out, decide_eq_false hn0]; rfl
      go_wp2_with fail
      go_meet
      exact ⟨by rw [HA1.out], rfl⟩
    ·have HA1 : Hid (anyG b.1 (i + 1) = true) := by show _ = _; rw [HAn.out]; rfl
     go_wp2_with fail
     go_meet
     exact ⟨by rw [HA1.out], rfl⟩
   case rest =>
   obtain ⟨rfl, rfl⟩ := hcut
   have z6 := HTi.out w7 HB7.out
   go_upto_region 18 with fail
   go_cut [10] from 40 to 112 (fun s10 wc => s10 = .bool (firstG cs (i + 1)) ∧ w7 = wc)
   case first =>
    cases bf
    ·by_cases hca : ci = clA
     ·have x1 := sameW hca
      have HF1 : Hid (firstG cs (i + 1) = true) := by show _ = _; rw [HFn.out, decide_eq_true hca]; rfl
      clear hca hc3
      go_wp2_with fail
      go_meet
      exact ⟨by rw [HF1.out], rfl⟩
     ·have x1 := otherW hca
      have HF1 : Hid (firstG cs (i + 1) = false) := by show _ = _; rw [HFn.out, decide_eq_false hca]; rfl
      clear hca hc3
      go_wp2_with fail
      go_meet
      exact ⟨by rw [HF1.out], rfl⟩
    ·have HF1 : Hid (firstG cs (i + 1) = true) := by show _ = _; rw [HFn.out]; rfl
     clear hc3
     go_wp2_with fail
     go_meet
     exact ⟨by rw [HF1.out], rfl⟩
   case rest =>
   obtain ⟨rfl, rfl⟩ := hcut
   go_upto_region 19 with fail
   go_cut [85] from 40 to 112 (fun s85 wc => s85 = .bool false ∧ w7 = wc)
   case first =>
    have hab : clA ≠ clB ∧ clA ≠ clC ∧ clB ≠ clA ∧ clB ≠ clC ∧ clC ≠ clA ∧ clC ≠ clB := by decide
    obtain ⟨q1, q2, q3, q4, q5, q6⟩ := hab
    rcases hc3 with hcx | hcx | hcx
    ·have x1 := sameW hcx
     clear hcx q1 q2 q3 q4 q5 q6
     go_wp2_with fail
     go_meet
     exact ⟨rfl, rfl⟩
    ·have x1 := otherW (k := ci) (z := clA) (by rw [hcx]; exact q3)
     have x2 := sameW hcx
     clear hcx q1 q2 q3 q4 q5 q6
     go_wp2_with fail
     go_meet
     exact ⟨rfl, rfl⟩
    ·have x1 := otherW (k := ci) (z := clA) (by rw [hcx]; exact q5)
     have x2 := otherW (k := ci) (z := clB) (by rw [hcx]; exact q6)
     have x3 := sameW hcx
     clear hcx q1 q2 q3 q4 q5 q6
     go_wp2_with fail
     go_meet
     exact ⟨rfl, rfl⟩
   case rest =>
   obtain ⟨rfl, rfl⟩ := hcut
   clear z6 hc3
   go_wp2
   go_loopw [13] (fun vk wr => ∃ k : Nat, k ≤ ln ∧ vk = .int .i64 k ∧ Below w6.heap.size w6 wr) (fun vk _ => ln - (RowKit.intOf vk).toNat)
   case atStart => exact ⟨0, Nat.zero_le _, rfl, HB7.out⟩
   case round =>
    obtain ⟨wk, hwk⟩ : ∃ wk, wk = wr := ⟨_, rfl⟩
    subst hwk
    obtain ⟨k, hk, rfl, hbk⟩ := hrel
    have HBk : Hid (Below w6.heap.size w6 wk) := hbk
    by_cases hlt2 : k < ln
    ·obtain ⟨y, hy⟩ : ∃ y, b.1[k]? = some y := ⟨_, List.getElem?_eq_getElem (by rw [HN.out]; exact hlt2)⟩
     obtain ⟨a9, e9, c1⟩ := HGc.out wk k y hbk hy
     cases e9
     obtain ⟨a8, o8, e8, c2⟩ := HTc.out wk k y hbk hy
     cases e8
     have c3 := HTi.out wk hbk
     have HSy : ∀ W, Below wk.heap.size wk W → Calls Tryz.prog 26 #[.pointer (some ⟨x.p, 0, none⟩), .string (nameG y)] W fun e w' => e = .returned (agU y.2) ∧ Below W.heap.size W w' := fun W hb => HSu.out W x y (HI6.out.below (hbk.trans (hb.mono hbk.size))) (List.mem_of_getElem? hy)
     have hou : y.2.2.1 = outG y := rfl
     unfold agU at HSy
     rw [hou] at HSy
     have hor := HOr.out i k g y HGi.out hy
     rw [HNn.out, HCi.out] at hor
     have e3 := less_eq (classAt b.1 k y) ci
     have e4 := same_eq (classAt b.1 k y) ci
     have hbR : ∀ d os, Below wk.heap.size wk (grow (redrawn wk d) os) := fun d os => below_regrown wk d os
     have g1 := cell_regrown c1
     have g2 := cell_regrown c2
     have g3 := cell_regrown c3
     have cS := fun d os => Calls.regrown_of (w := wk) (HSy _ (hbR d os))
     have hfo := fun W => fieldOut y.2.1 (outG y) y.2.2.2.1 y.2.2.2.2 W
     generalize outG y = o at *
     generalize classAt b.1 k y = ck at *
     generalize nameG y = ny at *
     clear HSy hy c1 c2 c3 hou hbk
     by_cases hgt : n < o
     ·have hgd : decide (o > n) = true := decide_eq_true hgt
      rcases hor hgt with hz | ⟨hz, heq⟩
      ·rw [hz] at e3
       clear hor hz e4
       go_wp2
       refine wp_region_quiet_below (by kernel_rfl) (by kernel_rfl) ?_
       repeat (first | go_big_quiet_skip | quiet_step (first | (go_at_call 26; exact cS _ _)))
       refine wpQuiet_nil ?_
       intro _ hw'
       obtain ⟨⟨dq, osq⟩, hw''⟩ := hw'
       subst hw''
       have HBE : Hid (Below w6.heap.size w6 (grow (redrawn wk dq) osq)) := HBk.out.trans ((hbR dq osq).mono HBk.out.size)
       clear hbR g1 g2 g3 cS
       generalize grow (redrawn wk dq) osq = W at *
       go_wp2
       go_roundw
       case rel => exact ⟨k + 1, by omega, by go_num, HBE.out⟩
       case measure => simp [RowKit.intOf]; omega
      ·rw [hz] at e3
       rw [decide_eq_true heq] at e4
       clear hor hz heq
       go_wp2
       refine wp_region_quiet_below (by kernel_rfl) (by kernel_rfl) ?_
       repeat (first | go_big_quiet_skip | quiet_step (first | (go_at_call 26; exact cS _ _)))
       refine wpQuiet_nil ?_
       intro _ hw'
       obtain ⟨⟨dq, osq⟩, hw''⟩ := hw'
       subst hw''
       have HBE : Hid (Below w6.heap.size w6 (grow (redrawn wk dq) osq)) := HBk.out.trans ((hbR dq osq).mono HBk.out.size)
       clear hbR g1 g2 g3 cS
       generalize grow (redrawn wk dq) osq = W at *
       go_wp2
       go_roundw
       case rel => exact ⟨k + 1, by omega, by go_num, HBE.out⟩
       case measure => simp [RowKit.intOf]; omega
     ·have hgd : decide (o > n) = false := decide_eq_false hgt
      clear hor
      go_wp2
      refine wp_region_quiet_below (by kernel_rfl) (by kernel_rfl) ?_
      repeat (first | go_big_quiet_skip | quiet_step (first | (go_at_call 26; exact cS _ _)))
      refine wpQuiet_nil ?_
      intro _ hw'
      obtain ⟨⟨dq, osq⟩, hw''⟩ := hw'
      subst hw''
      have HBE : Hid (Below w6.heap.size w6 (grow (redrawn wk dq) osq)) := HBk.out.trans ((hbR dq osq).mono HBk.out.size)
      clear hbR g1 g2 g3 cS
      generalize grow (redrawn wk dq) osq = W at *
      go_wp2
      go_roundw
      case rel => exact ⟨k + 1, by omega, by go_num, HBE.out⟩
      case measure => simp [RowKit.intOf]; omega
    ·clear hbk
     go_wp2
     go_roundw
     case rel => exact ⟨i + 1, by omega, by go_num, rfl, rfl, HBk.out⟩
     case measure => simp [RowKit.intOf]; omega
  ·have hkn : ln = i := by omega
   subst hkn
   rw [HAF.out]
   have HBz : Hid (Below w.heap.size w w0) := HB6.out.trans (hb0.mono HB6.out.size)
   clear hb0
   generalize firstG cs ln = bf at *
   go_wp2
   go_ret
   exact ⟨by simp, HBz.out⟩
theorem countClasses_long {s : Nat → Addr} (K : CountK s) (v : Value) (w : World) (hs : Sent w s) (hL : ∀ W, Below w.heap.size w W → Calls Tryz.prog 7 #[v, .int .i64 40] W fun r w' => r = .returned (.int .i64 1) ∧ Below W.heap.size W w') :
  Calls Tryz.prog 5 #[v] w fun r w' => r = .returned (.bool true) ∧ Below w.heap.size w w' := by
 have HCo : Hid (Calls Tryz.prog 6 _ _ _) := counted_any K w hs
 have HL : Hid (∀ W, Below w.heap.size w W → Calls Tryz.prog 7 #[v, .int .i64 40] W _) := hL
 clear K hs hL
 go_enter Tryz.func5, Tryz.ntmps5
 go_wp2_with (first
  | (go_at_call 6; refine HCo.out.mono ?_; rintro r w1 ⟨rfl, hb1⟩; have HB1 : Hid (Below w.heap.size w w1) := hb1; clear hb1)
  | (go_at_call 7; refine (HL.out _ HB1.out).mono ?_; rintro r w2 ⟨rfl, hb2⟩; have HB2 : Hid (Below w.heap.size w w2) := HB1.out.trans (hb2.mono HB1.out.size); clear hb2))
 go_ret
 exact ⟨rfl, HB2.out⟩
theorem countClasses_any {s : Nat → Addr} (K : CountK s) (C : CountC s) (v : Value) (w : World) (hs : Sent w s) (hh : Handle w) (ho : (∃ ad c, v = .slice ad 0 c) ∨ ∃ b off c l, 1 ≤ l.length ∧ l.length ≤ maxLen ∧ v = .slice (some ⟨b, off, none⟩) l.length c ∧ Ents w b off l ∧ ∀ e ∈ l, SzE e) :
  Calls Tryz.prog 5 #[v] w fun r w' => r = .returned (.bool true) ∧ Below w.heap.size w w' := by
 have key : ∀ (pp : Option Addr) (l : List En) (cap : Nat), (∀ e ∈ l, SzE e) → (l = [] ∨ ∃ bq off, pp = some ⟨bq, off, none⟩ ∧ Ents w bq off l) → l.length ≤ 40 → longs l = false → Calls Tryz.prog 5 #[.slice pp l.length cap] w fun r w' => r = .returned (.bool true) ∧ Below w.heap.size w w' := fun pp l cap hz hr h40 hno => countClasses_in K C pp l cap w hs hh hz hr h40 hno
 rcases ho with ⟨ad, c, rfl⟩ | ⟨b, off, c, l, h1, hm, rfl, hE, hz⟩
 ·exact key ad [] c (by simp) (Or.inl rfl) (by decide) rfl
 ·by_cases h40 : l.length ≤ 40
  ·cases hl : longs l with
   | false => exact key _ l c hz (Or.inr ⟨b, off, rfl, hE⟩) h40 hl
   | true =>
    refine countClasses_long K _ w hs fun W hb => ?_
    have := longs_some l b off c 40 W (hE.below hE.lt hb) hz (by omega) (by decide)
    rw [hl] at this
    exact this
  ·refine countClasses_long K _ w hs fun W hb => ?_
   refine (longs_many (some ⟨b, off, none⟩) l.length c 40 W (by omega)).mono ?_
   rintro r w' ⟨rfl, rfl⟩
   exact ⟨rfl, Below.refl _ _⟩
end Go.Proofs.YtppodkkefegbkaaGreatDoor
namespace Go.Proofs.YtppodkkefegbkaaGreatDoor
open Go.RowKit Go.Shelf Go.Lib Go.Sort
def encE : Enc Sh where
 k := 2
 enc := encSh
 len _ := rfl
 one x v hv := encSh_one x v hv
theorem Tryz.infoSh : (Tryz.prog.info? 114).map (fun i => (i.zero, i.size, i.bytes)) = some (some (.agg #[.int .i64 0, .int .i64 0]), 2, 16) := by kernel_rfl
theorem Tryz.infoTx : (Tryz.prog.info? 9).map (fun i => (i.zero, i.size, i.bytes)) = some (some (.string ⟨#[]⟩), 1, 16) := by kernel_rfl
def shL (m : List Gs) : Nat → List Sh
 | 0 => []
 | i + 1 => match m[i]? with
  | some g => shL m i ++ [(i, outG g)]
  | none => shL m i
theorem shL_succ {m : List Gs} {i : Nat} {g : Gs} (h : m[i]? = some g) : shL m (i + 1) = shL m i ++ [(i, outG g)] := by
 show (match m[i]? with | some g => _ | none => _) = _
 rw [h]
theorem shL_len (m : List Gs) : ∀ {i : Nat}, i ≤ m.length → (shL m i).length = i
 | 0, _ => rfl
 | i + 1, h => by
  obtain ⟨g, hg⟩ : ∃ g, m[i]? = some g := ⟨_, List.getElem?_eq_getElem h⟩
  rw [shL_succ hg, List.length_append, shL_len m (Nat.le_of_succ_le h)]
  rfl
theorem shL_at (m : List Gs) : ∀ {k : Nat}, k ≤ m.length → ∀ {i : Nat} {g : Gs}, i < k → m[i]? = some g → (shL m k)[i]? = some (i, outG g)
 | 0, _, i, g, hi, _ => absurd hi (Nat.not_lt_zero _)
 | k + 1, hk, i, g, hi, hg => by
  obtain ⟨y, hy⟩ : ∃ y, m[k]? = some y := ⟨_, List.getElem?_eq_getElem hk⟩
  have hl := shL_len m (Nat.le_of_succ_le hk)
  rw [shL_succ hy]
  rcases Nat.lt_or_ge i k with h | h
  ·rw [List.getElem?_append_left (by omega)]
   exact shL_at m (Nat.le_of_succ_le hk) h hg
  ·obtain rfl : i = k := by omega
   rw [hy] at hg
   cases hg
   rw [List.getElem?_append_right (by omega), hl, Nat.sub_self]
   rfl
theorem shOf_shL (m : List Gs) : ShOf m (shL m m.length).toArray where
 size := by rw [List.size_toArray, shL_len m (Nat.le_refl _)]
 at_ i g hg := by
  have h := shL_at m (Nat.le_refl _) (List.getElem?_eq_some_iff.1 hg).1 hg
  obtain ⟨h1, h2⟩ := List.getElem?_eq_some_iff.1 h
  rw [getElem!_pos _ i (by simpa using h1)]
  simpa using h2
theorem flatE_array (m : List Sh) : (flatK encSh 2 m.toArray).toList = encE.flat m := by
 apply List.ext_getElem?
 intro j
 by_cases hj : j < m.length * 2
 ·have hi : j / 2 < m.length := by omega
  have h1 : m[j / 2]? = some m[j / 2] := List.getElem?_eq_getElem hi
  have h2 := encE.flat_get (j % 2) h1 (show j % 2 < 2 by omega)
  rw [show j / 2 * encE.k + j % 2 = j by show j / 2 * 2 + j % 2 = j; omega] at h2
  rw [h2, Array.getElem?_toList, Array.getElem?_eq_getElem (by rw [size_flatK]; simpa using hj)]
  have h3 := get_flatK encSh 2 m.toArray j (by simpa using hj)
  rw [getElem!_pos _ j (by rw [size_flatK]; simpa using hj)] at h3
  rw [h3, getElem!_pos m.toArray (j / 2) (by simpa using hi), List.getElem_toArray, getElem!_pos _ (j % 2) (by rw [encSh_len]; omega)]
  show some _ = (encSh _)[j % 2]?
  rw [List.getElem?_eq_getElem (by rw [encSh_len]; omega)]
 ·rw [List.getElem?_eq_none (l := encE.flat m) (by rw [encE.flat_len]; show m.length * 2 ≤ j; omega), List.getElem?_eq_none (by rw [Array.length_toList, size_flatK]; simpa using hj)]
theorem own_holdsSh {w : World} {base g cap : Nat} {m : List Sh} (h : w.ownsRow base 114 2 (.slice (some ⟨g, 0, none⟩) m.length cap) m.length (encE.flat m)) : HoldsK encSh 2 w g 0 m.toArray := by
 intro j hj
 have hj' : j < m.length * 2 := by rw [size_flatK] at hj; simpa using hj
 refine ⟨?_, ?_⟩
 ·rw [Nat.zero_add]
  have := h.cells (g := g) rfl j ((flatK encSh 2 m.toArray)[j]!) (by rw [← flatE_array, Array.getElem?_toList, Array.getElem?_eq_getElem hj, getElem!_pos _ j hj])
  rw [Go.WideShapes.add_plain] at this
  simpa using this
 ·rw [Nat.zero_add]; exact h.frozenAt j
theorem below_sortSh {B : Nat} (w : World) (blk off n : Nat) (d : Array Sh) (os : Array Obj) (hB : B ≤ w.heap.size) (hb : B ≤ blk) : Below B w (sortWorldK encSh 2 w blk off n d os) := by
 refine ⟨rfl, rfl, rfl, ?_, fun k hk => ?_⟩
 ·unfold sortWorldK; rw [size_grow, size_putRowK]; simp
 ·unfold sortWorldK
  rw [heap_grow_old _ _ (by rw [size_putRowK]; simp; omega)]
  show (w.heap.modify blk _)[k]? = _
  rw [Array.getElem?_modify, if_neg (by omega)]
theorem holds_cells {w : World} {g : Nat} {d : Array Sh} (h : HoldsK encSh 2 w g 0 d) {p : Nat} (hp : p < d.size) : w.cell? ⟨g, p * 2, none⟩ = some (.int .i64 ((d[p]!).1 : Int)) ∧ w.cell? ⟨g, p * 2 + 1, none⟩ = some (.int .i64 (d[p]!).2) := by
 have key : ∀ c, c < 2 → w.cell? ⟨g, p * 2 + c, none⟩ = some ((encSh d[p]!)[c]!) := by
  intro c hc
  have := (h (p * 2 + c) (by rw [size_flatK]; omega)).1
  rw [Nat.zero_add, get_flatK encSh 2 d _ (by omega), show (p * 2 + c) / 2 = p by omega, show (p * 2 + c) % 2 = c by omega] at this
  exact this
 exact ⟨key 0 (by decide), key 1 (by decide)⟩
theorem sortShares_none (w : World) : Calls Tryz.prog 47 #[.slice none 0 0, .func (.func 48) #[] #[]] w fun e w' => e = .returned (.tuple #[]) ∧ w' = w := by
 have hi : ∀ w, Calls Tryz.prog 109 #[.slice none 0 0, .int .i64 0, .int .i64 0, .func (.func 48) #[] #[]] w fun e w' => e = .returned (.tuple #[]) ∧ w' = w := fun w => by
  go_enter Tryz.func109, Tryz.ntmps109
  go_wp2
  refine wp_loop_rounds 1 ?_
  rw [rounds_succ]
  go_wp2
  go_end0
  exact ⟨rfl, rfl⟩
 have hs : ∀ w, Calls Tryz.prog 80 #[.slice none 0 0, .int .i64 0, .func (.func 48) #[] #[]] w fun e w' => e = .returned (.tuple #[]) ∧ w' = w := fun w => by
  go_enter Tryz.func80, Tryz.ntmps80
  go_wp2
  refine wp_loop_rounds 1 ?_
  rw [rounds_succ]
  go_wp2_with (go_at_call 109; refine (hi _).mono ?_; rintro e w1 ⟨rfl, rfl⟩)
  refine wp_loop_rounds 1 ?_
  rw [rounds_succ]
  go_wp2
  go_end0
  exact ⟨rfl, rfl⟩
 clear hi
 go_enter Tryz.func47, Tryz.ntmps47
 go_wp2_with (go_at_call 80; refine (hs _).mono ?_; rintro e w1 ⟨rfl, rfl⟩)
 go_end0
 exact ⟨rfl, rfl⟩
theorem classOf_any (a all : Int) (h0 : 0 ≤ a) (h1 : a ≤ 2000000000000000) (h2 : 0 ≤ all) (h3 : all ≤ 2000000000000000) (w : World) : Calls Tryz.prog 50 #[.int .i64 a, .int .i64 all] w fun e w' => e = .returned (.string (classG all a)) ∧ w' = w := by
 rw [classG_all h0 h2]
 by_cases q1 : a * 100 < all * 80
 ·rw [if_pos q1]
  go_enter Tryz.func50, Tryz.ntmps50
  go_wp2
  go_ret
  exact ⟨rfl, rfl⟩
 ·rw [if_neg q1]
  by_cases q2 : a * 100 < all * 95
  ·rw [if_pos q2]
   go_enter Tryz.func50, Tryz.ntmps50
   go_wp2
   go_ret
   exact ⟨rfl, rfl⟩
  ·rw [if_neg q2]
   go_enter Tryz.func50, Tryz.ntmps50
   go_wp2
   go_ret
   exact ⟨rfl, rfl⟩
theorem shares_any (w : World) (B : Nat) (x : Bl) (b : Bk) (hI : IsBk w B x b) :
  Calls Tryz.prog 46 #[.pointer (some ⟨x.p, 0, none⟩)] w fun e w' => ∃ v, e = .returned (.tuple #[v, .int .i64 (outsG b.1)]) ∧ encE.Row w' w.heap.size 114 v (shL b.1 b.1.length) ∧ (b.1.length = 0 → v = .slice none 0 0) ∧ Below w.heap.size w w' := by
 obtain ⟨i0, hi, hz0, hz1, hz2⟩ := info_parts Tryz.infoSh
 have hok := hI.ok
 have hOk := outOk_bk hok.wf
 have hg30 := hok.wf.gl
 have HGo : Hid (Calls Tryz.prog 25 #[.pointer (some ⟨x.p, 0, none⟩)] w fun e w' => (∃ p c, e = .returned (.slice p b.1.length c) ∧ ∀ V, Below w'.heap.size w' V → ∀ i g, b.1[i]? = some g → ∃ a, p = some ⟨a, 0, none⟩ ∧ V.cell? ⟨a, i * 2, none⟩ = some (.string (nameG g)) ∧ V.cell? ⟨a, i * 2 + 1, none⟩ = some (.int .i64 g.1.2)) ∧ Below w.heap.size w w') := (bgoods_any w _ x b hI).mono fun e w' ⟨v, h1, h2, h3⟩ => by
  rcases h2 with ⟨rfl, h0⟩ | ⟨g, c, rfl, _, _, hrow⟩
  ·exact ⟨⟨none, 0, by rw [h1, h0]; rfl, fun V hV i x hi => by rw [h0] at hi; simp at hi⟩, h3⟩
  ·exact ⟨⟨some ⟨g, 0, none⟩, c, h1, fun V hV i x hi => ⟨g, rfl, ((hrow.below hV) i x hi).1, ((hrow.below hV) i x hi).2⟩⟩, h3⟩
 have HSu : Hid (∀ W g, Below w.heap.size w W → g ∈ b.1 → Calls Tryz.prog 26 #[.pointer (some ⟨x.p, 0, none⟩), .string (nameG g)] W fun e w' => e = .returned (agU g.2) ∧ Below W.heap.size W w') := fun W g hb hg => by
  have := bsums_any (nameG g) W B x b (hI.below hb) (hI.sizeG hg)
  rw [sumsB_mem hok hg] at this
  exact this
 have HOk : Hid (OutOk b.1) := hOk
 obtain ⟨ln, hln⟩ : ∃ ln, b.1.length = ln := ⟨_, rfl⟩
 have HN : Hid (b.1.length = ln) := hln
 rw [hln] at HGo hg30 ⊢
 clear hI hok hOk hln
 go_enter Tryz.func46, Tryz.ntmps46
 go_wp2_with (go_at_call 25; refine HGo.out.mono ?_; rintro r w1 ⟨⟨p1, c1, rfl, hg1⟩, hb1⟩; have HB1 : Hid (Below w.heap.size w w1) := hb1; have HG1 : Hid (∀ V, Below w1.heap.size w1 V → ∀ i g, b.1[i]? = some g → ∃ a, p1 = some ⟨a, 0, none⟩ ∧ V.cell? ⟨a, i * 2, none⟩ = some (.string (nameG g)) ∧ V.cell? ⟨a, i * 2 + 1, none⟩ = some (.int .i64 g.1.2)) := hg1; clear hg1 hb1)
 go_loopw [4, 5, 12] (fun vs va vi wr => ∃ (k : Nat) (vv : Value), k ≤ ln ∧ vi = .int .i64 k ∧ va = .int .i64 (outsG (b.1.take k)) ∧ vv = vs ∧ encE.Row wr w1.heap.size 114 vv (shL b.1 k) ∧ Hid (k = 0 → vv = .slice none 0 0) ∧ Below w1.heap.size w1 wr) (fun _ _ vi _ => ln - (RowKit.intOf vi).toNat)
 case atStart => exact ⟨0, _, Nat.zero_le _, rfl, by rw [List.take_zero]; rfl, rfl, World.ownsRow_nil _ _ _ _, fun _ => rfl, Below.refl _ _⟩
 case round =>
  obtain ⟨k, vout, hk, rfl, rfl, rfl, hrow, hz, hwr⟩ := hrel
  have HWr : Hid (Below w1.heap.size w1 wr) := hwr
  have HZ : Hid (k = 0 → vout = .slice none 0 0) := hz.out
  clear hz
  by_cases hlt : k < ln
  ·obtain ⟨g, hg⟩ : ∃ g, b.1[k]? = some g := ⟨_, List.getElem?_eq_getElem (by rw [HN.out]; exact hlt)⟩
   obtain ⟨a1, rfl, c0, c1'⟩ := HG1.out wr hwr k g hg
   obtain ⟨W1, hW1⟩ : ∃ W1, wr.alloc (.cells #[.string (nameG g), .int .i64 g.1.2] 37) = W1 := ⟨_, rfl⟩
   have n1 : W1.heap[wr.heap.size]? = _ := hW1 ▸ heap_alloc_new wr (.cells #[.string (nameG g), .int .i64 g.1.2] 37)
   have f0 : W1.cell? ⟨wr.heap.size, 0, none⟩ = some (.string (nameG g)) := by rw [cell_of_heap n1]; rfl
   have hb1 : Below wr.heap.size wr W1 := hW1 ▸ (Below.refl _ wr).alloc (Nat.le_refl _) _
   have HB2 : Hid (Below w1.heap.size w1 W1) := hwr.trans (hb1.mono hwr.size)
   have HSg : Hid (Calls Tryz.prog 26 #[.pointer (some ⟨x.p, 0, none⟩), .string (nameG g)] W1 _) := HSu.out W1 g (HB1.out.trans (HB2.out.mono HB1.out.size)) (List.mem_of_getElem? hg)
   have HRw : Hid (encE.Row W1 w1.heap.size 114 vout (shL b.1 k)) := hrow.below hb1
   have HSs : Hid (shL b.1 (k + 1) = shL b.1 k ++ [(k, outG g)]) := shL_succ hg
   have HOs : Hid (outsG (b.1.take (k + 1)) = outsG (b.1.take k) + outG g) := outsG_succ hg
   obtain ⟨o1, o2⟩ := outsG_bound (HOk.out.take k)
   obtain ⟨o3, o4⟩ := HOk.out g (List.mem_of_getElem? hg)
   have hl9 : (b.1.take k).length ≤ 30 := by rw [List.length_take]; have := HN.out; omega
   have hlen := shL_len b.1 (show k ≤ b.1.length by rw [HN.out]; exact hk)
   obtain ⟨ao, co, rfl⟩ := hrow.shape
   have hou : g.2.2.1 = outG g := rfl
   unfold agU at HSg
   rw [hou] at HSg
   have hfo := fun W => fieldOut g.2.1 (outG g) g.2.2.2.1 g.2.2.2.2 W
   rw [hlen]
   rw [hlen] at HRw
   clear hg hrow hwr hb1 hou n1
   generalize outG g = n at *
   generalize outsG (b.1.take k) = O at *
   generalize nameG g = ng at *
   generalize g.1.2 = gp at *
   generalize g.2.1 = g1 at *
   generalize g.2.2.2.1 = g3 at *
   generalize g.2.2.2.2 = g4 at *
   generalize hM : shL b.1 k = M at *
   have HLm : Hid (M.length = k) := hlen
   clear hlen hM
   have hwO : IntKind.i64.wrap (O + n) = O + n := by rw [IntKind.wrap_i64]; omega
   go_wp2_with (first
    | (go_at_call 26; refine HSg.out.mono ?_; rintro r w5 ⟨rfl, hb5⟩; have HB5 : Hid (Below w1.heap.size w1 w5) := HB2.out.trans (hb5.mono HB2.out.size); have HOd : Hid (w5.ownsRow w1.heap.size 114 2 (.slice ao k co) k (encE.flat M)) := (by have h6 := HRw.out.below hb5; unfold Enc.Row at h6; rw [HLm.out] at h6; exact h6); clear hb5)
    | (at_builtin; refine wpList_append_own _ rfl _ _ 109 rfl w1.heap.size 114 i0 _ 2 16 Tryz.underlying109 hi hz0 hz1 hz2 rfl (by decide) (.slice ao k co) k (encE.flat M) rfl (HOd.out.alloc _) ⟨w5.heap.size, 0, none⟩ 1 1 (encE.enc (k, n)) rfl rfl (World.news_of_block (heap_alloc_new w5 _)) (encE.one _) (by unfold maxLen; omega) (by omega) (by have := HB5.out.size; simp; omega) ?_; intro v7 w7 own7 gr7 _; have HO7 : Hid (w7.ownsRow w1.heap.size 114 2 v7 (k + 1) (encE.flat M ++ encE.enc (k, n))) := own7; have HB7 : Hid (Below w1.heap.size w1 w7) := (HB5.out.alloc HB5.out.size _).grown gr7 (by have := HB5.out.size; simp; omega) (fun kk hkk => (HOd.out.lt kk hkk).1); clear own7 gr7))
   go_roundw
   case rel => exact ⟨k + 1, _, by omega, by go_num, by rw [HOs.out], rfl, by rw [HSs.out]; unfold Enc.Row; rw [List.length_append, HLm.out, encE.flat_append, encE.flat_one]; exact HO7.out, fun h => absurd h (Nat.succ_ne_zero _), HB7.out⟩
   case measure => simp [RowKit.intOf]; omega
  ·have hkn : k = ln := by omega
   have e : b.1.take k = b.1 := List.take_of_length_le (by rw [HN.out]; omega)
   rw [e]
   subst hkn
   have HRow : Hid (encE.Row wr w1.heap.size 114 vout (shL b.1 k)) := hrow
   have HBE : Hid (Below w.heap.size w wr) := HB1.out.trans (hwr.mono HB1.out.size)
   clear hrow hwr e
   go_wp2
   exact bodyPost_ret (v := .tuple #[vout, .int .i64 (outsG b.1)]) (by simp [results, Tryz.results46, go_sem]) rfl ⟨vout, rfl, HRow.out.base HB1.out.size, HZ.out, HBE.out⟩
theorem ownS_set {w : World} {B g n cap k : Nat} {T : TypeId} {xs : List Value} (h : w.ownsRow B T k (.slice (some ⟨g, 0, none⟩) n cap) n xs) {p : Nat} (v : Value) : (w.setCell ⟨g, p, none⟩ v).ownsRow B T k (.slice (some ⟨g, 0, none⟩) n cap) n (xs.set p v) := by
 refine ⟨by rw [List.length_set]; exact h.1, ?_⟩
 rcases h.2 with ⟨h1, _⟩ | ⟨g', cap', cur, hv, hB, hg, h3, h4, h5, h6⟩
 ·cases h1
 ·injection hv with a1 a2 a3
  injection a1 with a1
  injection a1 with a1
  subst a1 a3
  refine Or.inr ⟨g, cap, cur.setIfInBounds p v, rfl, hB, Joins.block_setCell hg v, h3, h4, by rw [Array.size_setIfInBounds]; exact h5, ?_⟩
  rw [← h6, Array.toList_setIfInBounds, List.take_set]
theorem ownS_kept {w w' : World} {B g n cap k : Nat} {T : TypeId} {xs : List Value} (h : w.ownsRow B T k (.slice (some ⟨g, 0, none⟩) n cap) n xs) (hb : w'.heap[g]? = w.heap[g]?) : w'.ownsRow B T k (.slice (some ⟨g, 0, none⟩) n cap) n xs := by
 refine ⟨h.1, ?_⟩
 rcases h.2 with ⟨h1, _⟩ | ⟨g', cap', cur, hv, hB, hg, h3⟩
 ·cases h1
 ·injection hv with a1 a2 a3
  injection a1 with a1
  injection a1 with a1
  subst a1 a3
  exact Or.inr ⟨g, cap, cur, rfl, hB, hb.trans hg, h3⟩
def ToldC (m : List Gs) (d : Array Sh) (p : Nat) (ts : List ByteArray) : Prop := ts.length = m.length ∧ ∀ q i g, q < p → d[q]! = (i, outG g) → m[i]? = some g → ts[i]? = some (classAt m i g)
theorem ToldC.next {m : List Gs} {d : Array Sh} {p i : Nat} {ts : List ByteArray} {g : Gs} (h : ToldC m d p ts) (e : d[p]! = (i, outG g)) (hg : m[i]? = some g) : ToldC m d (p + 1) (ts.set i (classAt m i g)) := by
 have hi := (List.getElem?_eq_some_iff.1 hg).1
 refine ⟨by rw [List.length_set]; exact h.1, fun q j y hq e2 hy => ?_⟩
 rw [List.getElem?_set]
 by_cases hij : i = j
 ·subst hij
  rw [hg] at hy
  cases hy
  rw [if_pos rfl, if_pos (by rw [h.1]; exact hi)]
 ·rw [if_neg hij]
  rcases Nat.lt_or_ge q p with h9 | h9
  ·exact h.2 q j y h9 e2 hy
  ·obtain rfl : q = p := by omega
   rw [e] at e2
   exact absurd (congrArg Prod.fst e2) hij
theorem ToldC.all {m : List Gs} {d : Array Sh} {ts : List ByteArray} (h : ToldC m d m.length ts) (hR : RkOf m d) : ts = classesG m m.length := by
 apply List.ext_getElem?
 intro i
 rcases Nat.lt_or_ge i m.length with hi | hi
 ·obtain ⟨p, hp, e⟩ := hR.all i hi
  obtain ⟨j, g, hg, e2⟩ := hR.from_ p hp
  rw [e2] at e
  simp only at e
  subst e
  rw [h.2 p j g hp e2 hg, classesG_at m (Nat.le_refl _) hi hg]
 ·rw [List.getElem?_eq_none (by rw [h.1]; exact hi), List.getElem?_eq_none (by rw [classesG_len m (Nat.le_refl _)]; exact hi)]
theorem sumA_bound {m : List Gs} {d : Array Sh} (hOk : OutOk m) (h30 : m.length ≤ 30) (hR : RkOf m d) {p : Nat} (hp : p < m.length) : 0 ≤ sumA d p ∧ sumA d p ≤ 1979120929996800 := by
 obtain ⟨i, g, hg, e⟩ := hR.from_ p hp
 rw [hR.front hp e]
 obtain ⟨h1, h2⟩ := frontG_bound hOk (outG g) i m.length
 omega
theorem madeTx (n : Nat) : (madeCells (Value.string ⟨#[]⟩).cells (n * 1)).toList = (List.replicate n (⟨#[]⟩ : ByteArray)).map Value.string := by
 rw [List.map_replicate, List.eq_replicate_iff]
 refine ⟨by rw [Array.length_toList, size_madeCells, Nat.mul_one], fun v hv => ?_⟩
 unfold madeCells at hv
 rw [Array.toList_map] at hv
 obtain ⟨i, _, rfl⟩ := List.mem_map.1 hv
 have h1 : (Value.string ⟨#[]⟩).cells.size = 1 := rfl
 rw [h1, Nat.mod_one]
 rfl
theorem classes_no (w : World) (p : Value) (hp : ∀ W, Below w.heap.size w W → Calls Tryz.prog 46 #[p] W fun e w' => (∃ n, e = .returned (.tuple #[.slice none 0 0, .int .i64 n])) ∧ Below W.heap.size W w') :
  Calls Tryz.prog 20 #[p] w fun e w' => (∃ q c, e = .returned (.slice q 0 c)) ∧ Below w.heap.size w w' := by
 obtain ⟨i0, hi, hz0, hz1, hz2⟩ := info_parts Tryz.infoTx
 have HP : Hid (Calls Tryz.prog 46 #[p] w _) := hp w (Below.refl _ _)
 have hso := fun W => sortShares_none W
 clear hp
 go_enter Tryz.func20, Tryz.ntmps20
 go_wp2_with (first
  | (go_at_call 46; refine HP.out.mono ?_; rintro r w1 ⟨⟨n, rfl⟩, hb1⟩; have HB1 : Hid (Below w.heap.size w w1) := hb1; clear hb1)
  | (go_at_call 47; refine (hso _).mono ?_; rintro r w2 ⟨rfl, hw⟩; have hw' := hw.symm; subst hw')
  | (refine wpList_make_full _ rfl _ _ 57 rfl w1.heap.size 9 i0 _ 1 Tryz.underlying57 hi hz0 hz1 .i64 .i64 _ _ 0 rfl rfl rfl rfl (by rw [hz2]; omega) (by unfold maxLen; omega) (Nat.le_refl _) ?_; intro w3 own3 gr3; have HB3 : Hid (Below w.heap.size w w3) := HB1.out.trans ((⟨gr3.os, gr3.tape, gr3.output, gr3.size, fun k hk => gr3.block k hk (by simp)⟩ : Below w1.heap.size w1 w3).mono HB1.out.size); clear own3 gr3))
 refine wp_loop_rounds 1 ?_
 rw [rounds_succ]
 go_wp2
 go_ret
 exact ⟨⟨_, _, rfl⟩, HB3.out⟩
theorem classes_some (w : World) (B : Nat) (x : Bl) (b : Bk) (hI : IsBk w B x b) (hne : 0 < b.1.length) :
  Calls Tryz.prog 20 #[.pointer (some ⟨x.p, 0, none⟩)] w fun e w' => (∃ p c, e = .returned (.slice p b.1.length c) ∧ Txs w' p (classesG b.1 b.1.length)) ∧ Below w.heap.size w w' := by
 obtain ⟨i0, hi, hz0, hz1, hz2⟩ := info_parts Tryz.infoTx
 have hok := hI.ok
 have hOk := outOk_bk hok.wf
 have hg30 := hok.wf.gl
 have hlS := shL_len b.1 (Nat.le_refl _)
 have HSh : Hid (Calls Tryz.prog 46 #[.pointer (some ⟨x.p, 0, none⟩)] w fun e w' => ∃ g cap, e = .returned (.tuple #[.slice (some ⟨g, 0, none⟩) b.1.length cap, .int .i64 (outsG b.1)]) ∧ w.heap.size ≤ g ∧ g < w'.heap.size ∧ HoldsK encSh 2 w' g 0 (shL b.1 b.1.length).toArray ∧ Below w.heap.size w w') := (shares_any w B x b hI).mono fun e w' ⟨v, h1, h2, h3, h4⟩ => by
  have h5 := h2
  rcases h2.2 with ⟨hv, h0⟩ | ⟨g, cap, cur, hv, hB, hg, _⟩
  ·rw [hlS] at h0; omega
  ·subst hv
   rw [hlS] at h1
   exact ⟨g, cap, h1, hB, (Array.getElem?_eq_some_iff.1 hg).1, own_holdsSh h5, h4⟩
 have HSo : Hid (∀ W g cap, g < W.heap.size → w.heap.size ≤ W.heap.size → w.heap.size ≤ g → HoldsK encSh 2 W g 0 (shL b.1 b.1.length).toArray → Calls Tryz.prog 47 #[.slice (some ⟨g, 0, none⟩) b.1.length cap, .func (.func 48) #[] #[]] W fun e w' => e = .returned (.tuple #[]) ∧ ∃ d, RkOf b.1 d ∧ HoldsK encSh 2 w' g 0 d ∧ Below w.heap.size W w') := fun W g cap hlt hsz hgb hH => by
  have hs : (shL b.1 b.1.length).toArray.size = b.1.length := by rw [List.size_toArray, hlS]
  have := sortStable_anyC g 0 cap (shL b.1 b.1.length).toArray W hH hlt (by rw [hs]; omega)
  rw [hs] at this
  refine this.mono fun e w' ⟨h1, d, h2, h3⟩ => ?_
  have h4 : SWK encSh 2 W g 0 d w' := h3.2
  refine ⟨h1, d, rkOf (shOf_shL b.1) h2, SWK.holds h4 hlt hH (by rw [h3.1, hs]), ?_⟩
  obtain ⟨m, os, rfl⟩ := h4
  exact below_sortSh W g 0 m d os hsz hgb
 have HOk : Hid (OutOk b.1) := hOk
 have H30 : Hid (b.1.length ≤ 30) := hg30
 have HNe : Hid (0 < b.1.length) := hne
 have hall := outsG_bound hOk
 obtain ⟨ln, hln⟩ : ∃ ln, b.1.length = ln := ⟨_, rfl⟩
 have HN : Hid (b.1.length = ln) := hln
 obtain ⟨all, hal⟩ : ∃ all, outsG b.1 = all := ⟨_, rfl⟩
 have HAll : Hid (outsG b.1 = all) := hal
 rw [hal] at HSh hall
 obtain ⟨cls, hcls⟩ : ∃ cls, classesG b.1 b.1.length = cls := ⟨_, rfl⟩
 have HCls : Hid (classesG b.1 b.1.length = cls) := hcls
 obtain ⟨shs, hshs⟩ : ∃ shs, shL b.1 b.1.length = shs := ⟨_, rfl⟩
 rw [hcls]
 rw [hshs] at HSh HSo
 rw [hln] at HSh HSo hg30 hall ⊢
 obtain ⟨l0, l1⟩ := hall
 clear hI hok hOk hlS hln hal hcls hshs hne
 go_enter Tryz.func20, Tryz.ntmps20
 go_wp2_with (first
  | (go_at_call 46; refine HSh.out.mono ?_; rintro r w1 ⟨g, cap, rfl, hgb, hgl, hH, hb1⟩; have HB1 : Hid (Below w.heap.size w w1) := hb1; have HH1 : Hid (g < w1.heap.size ∧ w.heap.size ≤ g ∧ HoldsK encSh 2 w1 g 0 shs.toArray) := ⟨hgl, hgb, hH⟩; clear hb1 hgb hgl hH)
  | (go_at_call 47; refine (HSo.out w1 g cap HH1.out.1 HB1.out.size HH1.out.2.1 HH1.out.2.2).mono ?_; rintro r w2 ⟨rfl, d, hR, hH2, hb2⟩; have HR : Hid (RkOf b.1 d) := hR; have HH2 : Hid (HoldsK encSh 2 w2 g 0 d) := hH2; have HB2 : Hid (Below w.heap.size w w2) := HB1.out.trans hb2; have HG2 : Hid (g < w2.heap.size) := Nat.lt_of_lt_of_le HH1.out.1 hb2.size; clear hR hH2 hb2)
  | (refine wpList_make_full _ rfl _ _ 57 rfl w2.heap.size 9 i0 _ 1 Tryz.underlying57 hi hz0 hz1 .i64 .i64 _ _ ln rfl rfl rfl rfl (by rw [hz2]; omega) (by unfold maxLen; omega) (Nat.le_refl _) ?_; intro w3 own3 gr3; have HB3 : Hid (Below w2.heap.size w2 w3) := ⟨gr3.os, gr3.tape, gr3.output, gr3.size, fun k hk => gr3.block k hk (by simp)⟩; have HO3 : Hid (w3.ownsRow w2.heap.size 9 1 (.slice (some ⟨w2.heap.size, 0, none⟩) ln ln) ln _) := own3; clear own3 gr3))
 have HO4 : Hid (w3.ownsRow w2.heap.size 9 1 (.slice (some ⟨w2.heap.size, 0, none⟩) ln ln) ln ((List.replicate ln (⟨#[]⟩ : ByteArray)).map Value.string)) := by
  have h9 := HO3.out
  rw [madeTx] at h9
  exact h9
 clear HO3
 obtain ⟨gC, hgC⟩ : ∃ gC, w2.heap.size = gC := ⟨_, rfl⟩
 have HGC : Hid (w2.heap.size = gC) := hgC
 rw [hgC] at HB3 HO4 HG2 ⊢
 clear hgC
 go_loopw [6, 21] (fun va vi wr => ∃ p : Nat, p ≤ ln ∧ vi = .int .i64 p ∧ va = .int .i64 (sumA d p) ∧ (∃ ts, ToldC b.1 d p ts ∧ wr.ownsRow gC 9 1 (.slice (some ⟨gC, 0, none⟩) ln ln) ln (ts.map Value.string)) ∧ gC < wr.heap.size ∧ Below gC w2 wr) (fun _ vi _ => ln - (RowKit.intOf vi).toNat)
 case atStart => exact ⟨0, Nat.zero_le _, rfl, rfl, ⟨List.replicate ln ⟨#[]⟩, ⟨by rw [List.length_replicate, HN.out], fun q i g hq => absurd hq (Nat.not_lt_zero _)⟩, HO4.out⟩, (HO4.out.lt gC rfl).2, HB3.out⟩
 case round =>
  obtain ⟨p, hp, rfl, rfl, ⟨ts, hT, hown⟩, hgl, hwr⟩ := hrel
  by_cases hlt : p < ln
  ·have hpm : p < b.1.length := by rw [HN.out]; exact hlt
   obtain ⟨i, gi, hgi, hdp⟩ := HR.out.from_ p hpm
   obtain ⟨c0, c1⟩ := holds_cells HH2.out (show p < d.size by rw [HR.out.size]; exact hpm)
   rw [hdp] at c0 c1
   simp only at c0 c1
   have q0 := (hwr.cell (p := ⟨g, p * 2, none⟩) HG2.out).trans c0
   have q1 := (hwr.cell (p := ⟨g, p * 2 + 1, none⟩) HG2.out).trans c1
   obtain ⟨W1, hW1⟩ : ∃ W1, wr.alloc (.cells #[.int .i64 (i : Int), .int .i64 (outG gi)] 114) = W1 := ⟨_, rfl⟩
   have n1 : W1.heap[wr.heap.size]? = _ := hW1 ▸ heap_alloc_new wr (.cells #[.int .i64 (i : Int), .int .i64 (outG gi)] 114)
   have f0 : W1.cell? ⟨wr.heap.size, 0, none⟩ = some (.int .i64 (i : Int)) := by rw [cell_of_heap n1]; rfl
   have f1 : W1.cell? ⟨wr.heap.size, 1, none⟩ = some (.int .i64 (outG gi)) := by rw [cell_of_heap n1]; rfl
   have hb1 : Below wr.heap.size wr W1 := hW1 ▸ (Below.refl _ wr).alloc (Nat.le_refl _) _
   have him : i < b.1.length := (List.getElem?_eq_some_iff.1 hgi).1
   have hil : i < ln := by rw [← HN.out]; exact him
   obtain ⟨Wd, hWd⟩ : ∃ Wd, W1.drew = Wd := ⟨_, rfl⟩
   have m0 : Wd.cell? ⟨wr.heap.size, 0, none⟩ = some (.int .i64 (i : Int)) := hWd ▸ f0
   have m1 : Wd.cell? ⟨wr.heap.size, 1, none⟩ = some (.int .i64 (outG gi)) := hWd ▸ f1
   have hbd : Below wr.heap.size wr Wd := hWd ▸ hb1.drew
   have hownd : Wd.ownsRow gC 9 1 (.slice (some ⟨gC, 0, none⟩) ln ln) ln (ts.map Value.string) := ownS_kept hown (hbd.block gC hgl)
   have hts : ts.length = ln := by rw [hT.1, HN.out]
   obtain ⟨t, ht⟩ : ∃ t, ts[i]? = some t := ⟨_, List.getElem?_eq_getElem (by rw [hts]; exact hil)⟩
   have zc : Wd.cell? ⟨gC, i, none⟩ = some (.string t) := by
    rw [World.ownsRow.cellAt hownd i (by omega), List.getElem?_map, ht]; rfl
   have zf : Wd.frozen? ⟨gC, i, none⟩ = false := hownd.frozenAt i
   obtain ⟨W2, hW2⟩ : ∃ W2, Wd.setCell ⟨gC, i, none⟩ (.string (classAt b.1 i gi)) = W2 := ⟨_, rfl⟩
   have hgne : wr.heap.size ≠ gC := by omega
   have hk : ∀ o, W2.cell? ⟨wr.heap.size, o, none⟩ = Wd.cell? ⟨wr.heap.size, o, none⟩ := fun o => by
    rw [← hW2]
    exact World.cell?_of_block (a := ⟨wr.heap.size, o, none⟩) (Below.heap_setCell _ ⟨gC, i, none⟩ _ _ hgne)
   have k0 := (hk 0).trans m0
   have k1 := (hk 1).trans m1
   have hs2 : W2.heap.size = Wd.heap.size := by rw [← hW2, World.size_setCell]
   have HBE : Hid (Below gC w2 W2 ∧ gC < W2.heap.size) := by
    refine ⟨?_, by rw [hs2]; exact Nat.lt_of_lt_of_le hgl hbd.size⟩
    rw [← hW2]
    exact (hwr.trans (hbd.mono (Nat.le_of_lt hgl))).setCell (Nat.le_refl _) _
   have HOE : Hid (ToldC b.1 d (p + 1) (ts.set i (classAt b.1 i gi)) ∧ W2.ownsRow gC 9 1 (.slice (some ⟨gC, 0, none⟩) ln ln) ln ((ts.set i (classAt b.1 i gi)).map Value.string)) := by
    refine ⟨hT.next hdp hgi, ?_⟩
    rw [List.map_set, ← hW2]
    exact ownS_set hownd _
   have hfr := HR.out.front hpm hdp
   obtain ⟨s0, s1⟩ := sumA_bound HOk.out H30.out HR.out hpm
   obtain ⟨o3, o4⟩ := HOk.out gi (List.mem_of_getElem? hgi)
   have hcl : classG all (sumA d p) = classAt b.1 i gi := by
    unfold classAt
    rw [← hfr, HAll.out]
   have HSu : Hid (sumA d (p + 1) = sumA d p + outG gi) := by
    show sumA d p + (d[p]!).2 = _
    rw [hdp]
   have HCo : Hid (∀ W, Calls Tryz.prog 50 #[.int .i64 (sumA d p), .int .i64 all] W fun e w' => e = .returned (.string (classAt b.1 i gi)) ∧ w' = W) := fun W => by
    have := classOf_any (sumA d p) all s0 (by omega) l0 (by rw [← HN.out] at hg30; have := H30.out; have h9 := l1; rw [← HN.out] at h9; omega) W
    rw [hcl] at this
    exact this
   have hiz : (i : Int) < (ln : Int) := by omega
   have hi0 : (0 : Int) ≤ (i : Int) := by omega
   clear hT hown hwr hb1 hbd hownd hts ht hk hs2 hfr hcl c0 c1 n1 hdp hgi him
   generalize classAt b.1 i gi = cc at *
   generalize outG gi = n at *
   generalize sumA d p = O at *
   have hwO : IntKind.i64.wrap (O + n) = O + n := by rw [IntKind.wrap_i64]; omega
   go_wp2
   go_region_held3 (fun w' => w'.cell? ⟨wr.heap.size, 0, none⟩ = some (.int .i64 (i : Int)) ∧ w'.cell? ⟨wr.heap.size, 1, none⟩ = some (.int .i64 n)) (go_keep) (first | (go_at_call 50; refine (HCo.out _).mono ?_; rintro r w6 ⟨rfl, hw6⟩; have hw6' := hw6.symm; subst hw6'))
   go_wp2
   go_roundw
   case rel => exact ⟨p + 1, by omega, by go_num, by rw [HSu.out], ⟨_, HOE.out⟩, HBE.out.2, HBE.out.1⟩
   case measure => simp [RowKit.intOf]; omega
  ·have hkn : p = b.1.length := by rw [HN.out]; omega
   have hcs : ts = cls := by
    rw [← HCls.out]
    subst hkn
    exact hT.all HR.out
   have HBE : Hid (Below w.heap.size w wr) := HB2.out.trans (hwr.mono (by have := HB2.out.size; have := HGC.out; omega))
   have HTx : Hid (Txs wr (some ⟨gC, 0, none⟩) cls) := fun j s hj => by
    have hj1 := (List.getElem?_eq_some_iff.1 hj).1
    refine ⟨gC, 0, rfl, ?_⟩
    rw [Nat.zero_add, World.ownsRow.cellAt hown j (by rw [← hcs] at hj1; have := hT.1; have := HN.out; omega), List.getElem?_map, hcs, hj]; rfl
   clear hT hown hwr hcs
   go_wp2
   go_ret
   exact ⟨⟨_, _, rfl, HTx.out⟩, HBE.out⟩
theorem countC_any (s : Nat → Addr) : CountC s where
 classes W B x b hI := by
  rcases Nat.eq_zero_or_pos b.1.length with h0 | h0
  ·refine (classes_no W (.pointer (some ⟨x.p, 0, none⟩)) fun W' hb => (shares_any W' B x b (hI.below hb)).mono fun e w' ⟨v, h1, _, h3, h4⟩ => ⟨⟨outsG b.1, by rw [h1, h3 h0]⟩, h4⟩).mono fun e w' ⟨⟨q, c, h1⟩, h2⟩ => ⟨⟨q, c, by rw [h1, h0], fun j t hj => ?_⟩, h2⟩
   rw [h0] at hj
   cases hj
  ·exact classes_some W B x b hI h0
end Go.Proofs.YtppodkkefegbkaaGreatDoor
