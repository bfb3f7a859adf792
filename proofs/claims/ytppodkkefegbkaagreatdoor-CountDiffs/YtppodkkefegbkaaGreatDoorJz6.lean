/-
 Plain mathematics of a stock's text: a line is read as it was written and written as it was read; so is a stock; no program is named here.
-/
import Derived.Test.YtppodkkefegbkaaGreatDoorJz5
import Derived.Test.YtppodkkefegbkaaGreatDoorJz4
import Derived.OwnWalk
import Derived.Shelf.SlSortCmp.KitK
import Derived.RegionTactic
import Derived.Test.YtppodkkefegbkaaGreatDoorGenK
import Derived.Deep.RegionHeld3
import Derived.Shelf.SlSortCmp.WholeK
set_option maxRecDepth 100000
set_option maxHeartbeats 16000000
namespace Go.Proofs.YtppodkkefegbkaaGreatDoor
open Go.Lib Go.Sort
theorem aheadN_parts (x y : Ln) : aheadN x y = if x.1 = y.1 then zLt x.2.1 y.2.1 else aheadP x.1 y.1 := by
 obtain ⟨p, a, n⟩ := x
 obtain ⟨q, b, k⟩ := y
 unfold aheadN cmpN keyL cmpK or2 aheadP
 simp only
 by_cases h : p = q
 ·subst h
  rw [if_pos (cmpP_self p), if_pos rfl]
  rcases cmpZ_cases a b with ⟨h1, h2, h3, h4⟩ | ⟨h1, h2, h3, h4⟩ | ⟨h1, h2, h3, h4⟩ <;> simp [h4, h1]
 ·rw [if_neg (fun e => h (cmpP_zero e)), if_neg h]
def wstep (x : Ln) (s : List Ln × Bool) (l : Ln) : List Ln × Bool :=
 if keyL l = keyL x then s else if s.2 = true then (s.1 ++ [l], true) else if aheadN x l = true then (s.1 ++ [x] ++ [l], true) else (s.1 ++ [l], false)
def wrun (x : Ln) (z : Bool) (m : List Ln) : List Ln × Bool := m.foldl (wstep x) ([], z)
def wend (x : Ln) (s : List Ln × Bool) : List Ln := if s.2 = true then s.1 else s.1 ++ [x]
theorem wrun_nil (x : Ln) (z : Bool) : wrun x z [] = ([], z) := rfl
theorem wrun_snoc (x : Ln) (z : Bool) (m : List Ln) (l : Ln) : wrun x z (m ++ [l]) = wstep x (wrun x z m) l := by unfold wrun; rw [List.foldl_append]; rfl
theorem wstep_same {x : Ln} {s : List Ln × Bool} {l : Ln} (h : keyL l = keyL x) : wstep x s l = s := by unfold wstep; rw [if_pos h]
theorem wstep_done {x : Ln} {s : List Ln × Bool} {l : Ln} (h : keyL l ≠ keyL x) (h1 : s.2 = true) : wstep x s l = (s.1 ++ [l], true) := by unfold wstep; rw [if_neg h, if_pos h1]
theorem wstep_here {x : Ln} {s : List Ln × Bool} {l : Ln} (h : keyL l ≠ keyL x) (h1 : s.2 = false) (h2 : aheadN x l = true) : wstep x s l = (s.1 ++ [x] ++ [l], true) := by unfold wstep; rw [if_neg h, if_neg (by rw [h1]; decide), if_pos h2]
theorem wstep_later {x : Ln} {s : List Ln × Bool} {l : Ln} (h : keyL l ≠ keyL x) (h1 : s.2 = false) (h2 : aheadN x l = false) : wstep x s l = (s.1 ++ [l], false) := by unfold wstep; rw [if_neg h, if_neg (by rw [h1]; decide), if_neg (by rw [h2]; decide)]
theorem wfold_done (x : Ln) : ∀ (m out : List Ln), m.foldl (wstep x) (out, true) = (out ++ without m (keyL x), true)
 | [], out => by simp [without]
 | l :: m, out => by
  rw [List.foldl_cons]
  unfold without
  by_cases h : keyL l = keyL x
  ·rw [wstep_same h, wfold_done x m out, List.filter_cons_of_neg (by simp [h])]; rfl
  ·rw [wstep_done h rfl, wfold_done x m, List.filter_cons_of_pos (by simp [h])]
   simp [without]
theorem wfold_open (x : Ln) : ∀ (m out : List Ln), wend x (m.foldl (wstep x) (out, false)) = out ++ insN x (without m (keyL x))
 | [], out => by simp [without, wend, insN]
 | l :: m, out => by
  rw [List.foldl_cons]
  unfold without
  by_cases h : keyL l = keyL x
  ·rw [wstep_same h, wfold_open x m out, List.filter_cons_of_neg (by simp [h])]; rfl
  ·rw [List.filter_cons_of_pos (by simp [h])]
   unfold insN
   cases ha : aheadN x l with
   | true =>
    rw [wstep_here h rfl ha, wfold_done]
    unfold wend
    simp [without]
   | false =>
    rw [wstep_later h rfl ha, wfold_open x m]
    simp [without]
theorem wend_run (m : List Ln) (k : Sp) (n : Int) : wend (k.1, k.2, n) (wrun (k.1, k.2, n) (decide (n = 0)) m) = withL m k n := by
 unfold wrun withL
 by_cases h : n = 0
 ·rw [decide_eq_true h, wfold_done, if_pos h]
  unfold wend; simp; rfl
 ·rw [decide_eq_false h, wfold_open, if_neg h]
  simp; rfl
theorem wstep_len (x : Ln) (s : List Ln × Bool) (l : Ln) : (wstep x s l).1.length + (if s.2 = true then 1 else 0) ≤ s.1.length + 1 + (if (wstep x s l).2 = true then 1 else 0) := by
 unfold wstep
 by_cases h : keyL l = keyL x
 ·rw [if_pos h]; omega
 ·rw [if_neg h]
  by_cases h1 : s.2 = true
  ·rw [if_pos h1, if_pos h1]; simp
  ·rw [if_neg h1, if_neg h1]
   by_cases h2 : aheadN x l = true
   ·rw [if_pos h2]; simp
   ·rw [if_neg h2]; simp
theorem wrun_len (x : Ln) (z : Bool) (m : List Ln) : (wrun x z m).1.length + (if z = true then 1 else 0) ≤ m.length + (if (wrun x z m).2 = true then 1 else 0) := by
 have key : ∀ (m : List Ln) (s : List Ln × Bool), (m.foldl (wstep x) s).1.length + (if s.2 = true then 1 else 0) ≤ s.1.length + m.length + (if (m.foldl (wstep x) s).2 = true then 1 else 0) := by
  intro m
  induction m with
  | nil => intro s; rw [List.foldl_nil, List.length_nil]; omega
  | cons l m ih =>
   intro s
   rw [List.foldl_cons]
   have h1 := ih (wstep x s l)
   have h2 := wstep_len x s l
   simp only [List.length_cons]
   omega
 have := key m ([], z)
 unfold wrun
 simp only [List.length_nil] at this
 omega
theorem wrun_short (x : Ln) (z : Bool) (m : List Ln) : (wrun x z m).1.length ≤ m.length + 1 := by
 have := wrun_len x z m
 split at this <;> split at this <;> omega
theorem find_at {m : List Ln} (hs : Sorted m) {i : Nat} {l : Ln} (h : m[i]? = some l) : atL m (keyL l) = l.2.2 := atL_mem hs.keys (List.mem_of_getElem? h)
theorem atL_pos_of {m : List Ln} (h : Wf m) {i : Nat} {l : Ln} (hi : m[i]? = some l) : 1 ≤ atL m (keyL l) := by
 rw [find_at h.sorted hi]; exact h.pos l (List.mem_of_getElem? hi)
theorem ofL_take_succ {m : List Ln} {i : Nat} {l : Ln} (h : m[i]? = some l) (c : ByteArray) : ofL (m.take (i + 1)) c = ofL (m.take i) c + (if l.2.1 = c then l.2.2 else 0) := by
 obtain ⟨hi, e⟩ := List.getElem?_eq_some_iff.1 h
 rw [List.take_succ_eq_append_getElem hi, ofL_append, ofL_cons, ofL_nil, e]; omega
theorem ofL_take_bound {m : List Ln} (h : Wf m) (i : Nat) (c : ByteArray) : 0 ≤ ofL (m.take i) c ∧ ofL (m.take i) c ≤ 1099511627776 := by
 have h1 := ofL_nonneg (m := m.take i) (fun l hl => h.pos l (List.mem_of_mem_take hl)) c
 have h2 := ofL_nonneg (m := m.drop i) (fun l hl => h.pos l (List.mem_of_mem_drop hl)) c
 have h3 := ofL_append (m.take i) (m.drop i) c
 rw [List.take_append_drop] at h3
 have := h.most c
 omega
end Go.Proofs.YtppodkkefegbkaaGreatDoor
namespace Go.Proofs.YtppodkkefegbkaaGreatDoor
open Go.RowKit Go.Lib Go.Sort
open Go.Maps (Keyed)
theorem RangeL.perm {P : Program} {k : TypeId} {w : World} {b r : Nat} {L T T' : List Ent} (h : RangeL P k w b r L T) (hp : T.Perm T') : RangeL P k w b r L T' := by
 obtain ⟨es, clock, since, seen, c0, hb, hs, hk, hL, hr, hold, hT, rest⟩ := h
 exact ⟨es, clock, since, seen, c0, hb, hs, hk, hL, hr, hold, hT.trans hp, rest⟩
theorem perm_map_cons {t : List Ln} {x : Ent} {T : List Ent} (h : (t.map entN).Perm (x :: T)) : ∃ l t', x = entN l ∧ t.Perm (l :: t') ∧ T.Perm (t'.map entN) := by
 obtain ⟨l, hl, e⟩ := List.mem_map.1 (h.mem_iff.2 (List.mem_cons_self ..))
 obtain ⟨s1, s2, rfl⟩ := List.append_of_mem hl
 have h1 : (s1 ++ l :: s2).Perm (l :: (s1 ++ s2)) := List.perm_middle
 refine ⟨l, s1 ++ s2, e.symm, h1, ?_⟩
 have h2 := (h1.map entN).symm.trans h
 rw [List.map_cons, e] at h2
 exact h2.cons_inv.symm
section
variable {P : Program} {k : TypeId} {w : World} {ops : Array Oper} {rest : List Oper} {o : Oper} {a : Act} {Q : Exit → Act → World → Prop}
theorem wpK_next (hg : o.guard = none) (it : Operand) (hop : o.op = Op.next it false) (b r : Nat) (L : List Ent) (t : List Ln) (hit : a.eval it = .pointer (some ⟨r, 0, none⟩)) (h : RangeL P k w b r L (t.map entN))
  (hDone : t = [] → wpList P ops Q rest (a.put o.dst (.tuple #[.bool false])) w)
  (hMore : ∀ (za : ByteArray) (zr zb : Int) (zc : ByteArray) (zn : Int) t' w', t.Perm (((za, zr, zb), zc, zn) :: t') → RangeL P k w' b r L (t'.map entN) → w.grownBy w' (some r) → w'.heap.size = w.heap.size → (Instr.entry (.pointer (some ⟨r, 0, none⟩))).run P w' = .ok (.tuple #[.agg #[.string za, .int .i64 zr, .int .i64 zb, .string zc], .int .i64 zn]) w' →
   wpList P ops Q rest (a.put o.dst (.tuple #[.bool true, .agg #[.string za, .int .i64 zr, .int .i64 zb, .string zc], .int .i64 zn])) w') : wpList P ops Q (o :: rest) a w := by
 refine wpL_next hg it hop k b r L (t.map entN) hit h (fun e => hDone (by simpa using e)) fun x T' w' hp hrg hgr hsz hen => ?_
 obtain ⟨l, t', rfl, h1, h2⟩ := perm_map_cons hp
 obtain ⟨⟨za, zr, zb⟩, zc, zn⟩ := l
 exact hMore za zr zb zc zn t' w' h1 (hrg.perm h2) hgr hsz hen
end
theorem of_step {m d t t' : List Ln} {l : Ln} (c : ByteArray) (hw : Wf m) (hp : (d ++ t).Perm m) (hp1 : t.Perm (l :: t')) :
  0 ≤ ofL d c ∧ ofL d c + (if l.2.1 = c then l.2.2 else 0) ≤ 1099511627776 ∧ 1 ≤ l.2.2 ∧ l.2.2 ≤ 1099511627776 ∧ ((d ++ [l]) ++ t').Perm m ∧ ofL (d ++ [l]) c = ofL d c + (if l.2.1 = c then l.2.2 else 0) := by
 have h1 : ((d ++ [l]) ++ t').Perm m := by
  rw [List.append_assoc]
  exact ((hp1.symm.append_left d)).trans hp
 have hpos : ∀ x ∈ m, 1 ≤ x.2.2 := hw.pos
 have hl : l ∈ m := h1.mem_iff.1 (by simp)
 have e := ofL_perm h1 c
 rw [ofL_append] at e
 have e1 : ofL (d ++ [l]) c = ofL d c + (if l.2.1 = c then l.2.2 else 0) := by rw [ofL_append, ofL_cons, ofL_nil]; omega
 have n1 := ofL_nonneg (m := d) (fun x hx => hpos x (h1.mem_iff.1 (by simp [hx]))) c
 have n2 := ofL_nonneg (m := t') (fun x hx => hpos x (h1.mem_iff.1 (by simp [hx]))) c
 have := hw.most c
 exact ⟨n1, by omega, hpos l hl, hw.qty hl, h1, e1⟩
theorem grown_below {w wr w1 : World} {r : Nat} (hb : Below w.heap.size w wr) (hr : w.heap.size ≤ r) (hg : wr.grownBy w1 (some r)) : Below w.heap.size w w1 :=
 hb.trans ⟨hg.os, hg.tape, hg.output, hg.size, fun k hk => hg.block k (Nat.lt_of_lt_of_le hk hb.size) (fun e => by cases e; omega)⟩
theorem of_any (c : ByteArray) (w : World) (p b : Nat) (m : List Ln) (h : IsStock w p b m) :
  Calls Tryz.prog 70 #[.pointer (some ⟨p, 0, none⟩), .string c] w fun e w' => e = .returned (.int .i64 (ofL m c)) ∧ Below w.heap.size w w' := by
 have hc := h.cell
 have hm := h.map
 have hlt := h.lt
 have HW : Hid (Wf m) := h.wf
 clear h
 go_enter Tryz.func70, Tryz.ntmps70
 go_wp2_with (at_range; refine wpL_range rfl _ 95 rfl 99 3 Tryz.underlying95 b (m.map entN) rfl hm ?_; intro w0 hrg0 hg0 hs0)
 go_frame
 have hb0 : Below w.heap.size w w0 := ⟨hg0.os, hg0.tape, hg0.output, hg0.size, fun k hk => hg0.block k hk (by simp)⟩
 clear hg0 hs0 hm
 go_loopw [5] (fun s wr => ∃ d t : List Ln, (d ++ t).Perm m ∧ s = .int .i64 (ofL d c) ∧ RangeL Tryz.prog 99 wr b w.heap.size (m.map entN) (t.map entN) ∧ Below w.heap.size w wr) (fun _ wr => wr.rangeLeft b w.heap.size)
 case atStart => exact ⟨[], m, List.Perm.refl _, rfl, hrg0, hb0⟩
 case round =>
  obtain ⟨d, t, hp, rfl, hrg, hb⟩ := hrel
  go_wp2_with (at_next; refine wpK_next rfl _ rfl b w.heap.size _ t rfl hrg ?_ ?_)
  ·intro ht
   subst ht
   have e : ofL d c = ofL m c := by rw [← ofL_perm hp]; simp
   go_wp2
   go_ret
   exact ⟨by rw [← e]; rfl, hb⟩
  ·intro za zr zb zc zn t' w1 hp1 hrg1 hg1 hs1 hen
   have hb1 := grown_below hb (Nat.le_refl _) hg1
   obtain ⟨q1, q2, q3, q4, q5, q6⟩ := of_step c HW.out hp hp1
   have HP : Hid (((d ++ [((za, zr, zb), zc, zn)]) ++ t').Perm m) := q5
   have HQ : Hid (ofL (d ++ [((za, zr, zb), zc, zn)]) c = _) := q6
   have HM : Hid (wr.rangeLeft b w.heap.size = w1.rangeLeft b w.heap.size + 1) := by
    show _ = _
    rw [hrg.left_eq, hrg1.left_eq]
    have := hp1.length_eq
    simpa using this
   have hrg2 := fun o => hrg1.kept (World.grownBy_alloc w1 o none) (by simp) (by simp)
   have hl1 := fun o => ((hrg2 o).left_eq).trans hrg1.left_eq.symm
   clear q5 q6 hp hp1 hrg hrg1 hg1 hb
   simp only at q2 q3 q4
   by_cases hz : zc = c
   ·subst hz
    rw [if_pos rfl] at q2
    go_wp2
    go_roundw
    case rel => exact ⟨_, t', HP.out, by rw [HQ.out, if_pos rfl], hrg2 _, hb1.alloc hb1.size _⟩
    case measure => show World.rangeLeft _ _ _ < _; rw [HM.out, hl1]; exact Nat.lt_succ_self _
   ·have e3 := same_eq zc c
    rw [decide_eq_false hz] at e3
    go_wp2
    go_roundw
    case rel => exact ⟨_, t', HP.out, by rw [HQ.out, if_neg hz, Int.add_zero], hrg2 _, hb1.alloc hb1.size _⟩
    case measure => show World.rangeLeft _ _ _ < _; rw [HM.out, hl1]; exact Nat.lt_succ_self _
end Go.Proofs.YtppodkkefegbkaaGreatDoor
namespace Go.Proofs.YtppodkkefegbkaaGreatDoor
open Go.RowKit Go.Lib Go.Sort
def encN (l : Ln) : List Value := [.string l.1.1, .int .i64 l.1.2.1, .int .i64 l.1.2.2, .string l.2.1, .int .i64 l.2.2]
abbrev agN (l : Ln) : Value := .agg #[.string l.1.1, .int .i64 l.1.2.1, .int .i64 l.1.2.2, .string l.2.1, .int .i64 l.2.2]
theorem Tryz.infoLn : (Tryz.prog.info? 48).map (fun i => (i.zero, i.size, i.bytes)) = some (some (.agg #[.string ⟨#[]⟩, .int .i64 0, .int .i64 0, .string ⟨#[]⟩, .int .i64 0]), 5, 56) := by kernel_rfl
theorem encN_len (x : Ln) : (encN x).length = 5 := rfl
theorem encN_one (x : Ln) : ∀ v ∈ encN x, v.oneCell' = true := by
 intro v hv; simp [encN] at hv; rcases hv with rfl | rfl | rfl | rfl | rfl <;> rfl
def flatN (m : List Ln) : List Value := m.flatMap encN
theorem flatN_snoc (m : List Ln) (l : Ln) : flatN (m ++ [l]) = flatN m ++ encN l := by unfold flatN; rw [List.flatMap_append]; simp
theorem flatN_get : ∀ {m : List Ln} {i : Nat} {l : Ln} (c : Nat), m[i]? = some l → c < 5 → (flatN m)[i * 5 + c]? = (encN l)[c]?
 | [], i, l, c, h, hc => by simp at h
 | x :: m, 0, l, c, h, hc => by
  obtain rfl : x = l := by simpa using h
  unfold flatN
  rw [List.flatMap_cons, List.getElem?_append_left (by rw [encN_len]; omega)]
  simp
 | x :: m, i + 1, l, c, h, hc => by
  have h' : m[i]? = some l := by simpa using h
  have ih := flatN_get (m := m) c h' hc
  unfold flatN at *
  rw [List.flatMap_cons, List.getElem?_append_right (by rw [encN_len]; omega), encN_len, ← ih]
  congr 1
  omega
structure LineAt (w : World) (g o : Nat) (l : Ln) : Prop where
 c0 : w.cell? ⟨g, o, none⟩ = some (.string l.1.1)
 c1 : w.cell? ⟨g, o + 1, none⟩ = some (.int .i64 l.1.2.1)
 c2 : w.cell? ⟨g, o + 2, none⟩ = some (.int .i64 l.1.2.2)
 c3 : w.cell? ⟨g, o + 3, none⟩ = some (.string l.2.1)
 c4 : w.cell? ⟨g, o + 4, none⟩ = some (.int .i64 l.2.2)
theorem LineAt.of_block {w w' : World} {g o : Nat} {l : Ln} (h : LineAt w g o l) (hb : w'.heap[g]? = w.heap[g]?) : LineAt w' g o l where
 c0 := (World.cell?_of_block (a := ⟨g, o, none⟩) hb).trans h.c0
 c1 := (World.cell?_of_block (a := ⟨g, o + 1, none⟩) hb).trans h.c1
 c2 := (World.cell?_of_block (a := ⟨g, o + 2, none⟩) hb).trans h.c2
 c3 := (World.cell?_of_block (a := ⟨g, o + 3, none⟩) hb).trans h.c3
 c4 := (World.cell?_of_block (a := ⟨g, o + 4, none⟩) hb).trans h.c4
theorem LineAt.lt {w : World} {g o : Nat} {l : Ln} (h : LineAt w g o l) : g < w.heap.size := cell_lt h.c0
theorem LineAt.below {w w' : World} {g o : Nat} {l : Ln} (h : LineAt w g o l) (hb : Below w.heap.size w w') : LineAt w' g o l := h.of_block (hb.block g h.lt)
theorem LineAt.new (w : World) (l : Ln) (t n : Nat) (hn : n = w.heap.size) : LineAt (w.alloc (.cells #[.string l.1.1, .int .i64 l.1.2.1, .int .i64 l.1.2.2, .string l.2.1, .int .i64 l.2.2] t)) n 0 l where
 c0 := by rw [World.cell?_alloc_at _ _ _ _ hn]; rfl
 c1 := by rw [World.cell?_alloc_at _ _ _ _ hn]; rfl
 c2 := by rw [World.cell?_alloc_at _ _ _ _ hn]; rfl
 c3 := by rw [World.cell?_alloc_at _ _ _ _ hn]; rfl
 c4 := by rw [World.cell?_alloc_at _ _ _ _ hn]; rfl
def RowN (w : World) (g : Nat) (m : List Ln) : Prop := ∀ i l, m[i]? = some l → LineAt w g (i * 5) l
theorem RowN.below {w w' : World} {g : Nat} {m : List Ln} (h : RowN w g m) (hb : Below w.heap.size w w') : RowN w' g m := fun i l hi => (h i l hi).below hb
theorem RowN.of_block {w w' : World} {g : Nat} {m : List Ln} (h : RowN w g m) (hb : w'.heap[g]? = w.heap[g]?) : RowN w' g m := fun i l hi => (h i l hi).of_block hb
theorem RowN.of_cells {w : World} {g : Nat} {m : List Ln} (h : ∀ j v, (flatN m)[j]? = some v → w.cell? ⟨g, j, none⟩ = some v) : RowN w g m := fun i l hi =>
 { c0 := h _ _ (flatN_get 0 hi (by decide)), c1 := h _ _ (flatN_get 1 hi (by decide)), c2 := h _ _ (flatN_get 2 hi (by decide)), c3 := h _ _ (flatN_get 3 hi (by decide)), c4 := h _ _ (flatN_get 4 hi (by decide)) }
theorem own_cells {w : World} {base g cap n : Nat} {m : List Ln} (h : w.ownsRow base 48 5 (.slice (some ⟨g, 0, none⟩) n cap) n (flatN m)) : ∀ j v, (flatN m)[j]? = some v → w.cell? ⟨g, j, none⟩ = some v := by
 intro j v hj
 have := h.cells (g := g) rfl j v hj
 rw [Go.WideShapes.add_plain] at this
 simpa using this
theorem own_rowN {w : World} {base g cap n : Nat} {m : List Ln} (h : w.ownsRow base 48 5 (.slice (some ⟨g, 0, none⟩) n cap) n (flatN m)) : RowN w g m := RowN.of_cells (own_cells h)
def Grew (w w' : World) : Prop := ∃ q os, w' = grow (w.drewN q) os
theorem Grew.refl (w : World) : Grew w w := ⟨0, #[], by rw [grow_empty]; rfl⟩
theorem Grew.drew {w w' : World} (h : Grew w w') : Grew w w'.drew := by
 obtain ⟨q, os, rfl⟩ := h
 exact ⟨q + 1, os, rfl⟩
theorem Grew.trans {w w' w'' : World} (h : Grew w w') (k : Grew w' w'') : Grew w w'' := by
 obtain ⟨q, os, rfl⟩ := h
 obtain ⟨q', os', rfl⟩ := k
 refine ⟨q + q', os ++ os', ?_⟩
 rw [← grow_grow]
 simp [grow, World.drewN, Nat.add_assoc]
theorem Grew.alloc {w w' : World} (h : Grew w w') (o : Obj) : Grew w (w'.alloc o) := h.trans ⟨0, #[o], by rw [alloc_eq_grow]; rfl⟩
theorem Grew.below {w w' : World} (h : Grew w w') : Below w.heap.size w w' := by
 obtain ⟨q, os, rfl⟩ := h
 exact below_grow w q os
theorem Grew.keep {w w' : World} (h : Grew w w') {a : Addr} {v : Value} (hc : w.cell? a = some v) : w'.cell? a = some v := by
 rw [h.below.cell (cell_lt hc)]; exact hc
end Go.Proofs.YtppodkkefegbkaaGreatDoor
namespace Go.Proofs.YtppodkkefegbkaaGreatDoor
open Go.RowKit Go.Lib Go.Sort
open Go.Maps (Keyed)
structure Five (w : World) (s : Nat → Addr) : Prop where
 two : Two w s
 shape : w.cell? ⟨0, 0, none⟩ = some (err (s 2))
 full : w.cell? ⟨3, 0, none⟩ = some (err (s 7))
 short : w.cell? ⟨4, 0, none⟩ = some (err (s 8))
theorem Five.below {w w' : World} {s : Nat → Addr} (h : Five w s) (hb : Below w.heap.size w w') : Five w' s where
 two := h.two.below hb
 shape := by rw [hb.cell (p := ⟨0, 0, none⟩) (cell_lt h.shape)]; exact h.shape
 full := by rw [hb.cell (p := ⟨3, 0, none⟩) (cell_lt h.full)]; exact h.full
 short := by rw [hb.cell (p := ⟨4, 0, none⟩) (cell_lt h.short)]; exact h.short
theorem Sent.five {w : World} {s : Nat → Addr} (h : Sent w s) : Five w s := ⟨h.two, h.cell 2 (by decide), h.cell 7 (by decide), h.cell 8 (by decide)⟩
abbrev boxS (w : World) (k : Sp) : World := w.alloc (.cells #[.string k.1.1, .int .i64 k.1.2.1, .int .i64 k.1.2.2, .string k.2] 99)
theorem boxS_below (w : World) (k : Sp) : Below w.heap.size w (boxS w k) := (Below.refl _ w).alloc (Nat.le_refl _) _
theorem checkTake_any (k : Sp) (n : Int) (w : World) (s : Nat → Addr) (p b : Nat) (m : List Ln) (h : IsStock w p b m) (hk : KeyOk k) (hs : Five w s) :
  Calls Tryz.prog 117 #[.pointer (some ⟨p, 0, none⟩), agS k, .int .i64 n] w fun e w' => e = .returned (errP s (takeE m k n)) ∧ Below w.heap.size w w' := by
 have hB := boxS_below w k
 have h1 := h.all hB
 have hl := h1.looks hk
 have hc := h1.cell
 obtain ⟨⟨g1, _⟩, _, _, g2⟩ := hs.below hB
 have hn := fun w => numWell_any n w
 have HB : Hid (Below _ _ _) := hB
 clear hB h1 h hk hs
 have HT : Hid (takeE m k n = if numW n = true then (if n ≤ atL m k then 0 else 9) else 2) := rfl
 generalize atL m k = v at *
 generalize takeE m k n = E at *
 obtain ⟨⟨a, r, bb⟩, c⟩ := k
 unfold agS boxS at *
 simp only at *
 cases hw : numW n with
 | false =>
  rw [hw] at hn
  have HE : Hid (errP s E = err (s 1)) := by show _ = _; rw [HT.out, hw]; rfl
  clear HT
  go_enter Tryz.func117, Tryz.ntmps117
  go_wp2_with (go_at_call 116; refine (hn _).mono ?_; rintro e w1 ⟨rfl, rfl⟩)
  go_ret
  exact ⟨by rw [HE.out]; rfl, HB.out⟩
 | true =>
  rw [hw] at hn
  by_cases hv : n ≤ v
  ·have HE : Hid (errP s E = .nilIface) := by show _ = _; rw [HT.out, hw, if_pos rfl, if_pos hv]; rfl
   clear HT
   have hd : decide (v < n) = false := decide_eq_false (by omega)
   go_enter Tryz.func117, Tryz.ntmps117
   go_wp2_with (go_at_call 116; refine (hn _).mono ?_; rintro e w1 ⟨rfl, rfl⟩)
   go_quiet (fail)
   go_wp2
   go_ret
   exact ⟨by rw [HE.out]; rfl, below_drewN HB.out _⟩
  ·have HE : Hid (errP s E = err (s 8)) := by show _ = _; rw [HT.out, hw, if_pos rfl, if_neg hv]; rfl
   clear HT
   have hd : decide (v < n) = true := decide_eq_true (by omega)
   go_enter Tryz.func117, Tryz.ntmps117
   go_wp2_with (go_at_call 116; refine (hn _).mono ?_; rintro e w1 ⟨rfl, rfl⟩)
   go_quiet (fail)
   go_wp2
   go_ret
   exact ⟨by rw [HE.out]; rfl, below_drewN HB.out _⟩
structure BoxS (n : Nat) (k : Sp) (W : World) : Prop where
 c0 : W.cell? ⟨n, 0, none⟩ = some (.string k.1.1)
 c1 : W.cell? ⟨n, 1, none⟩ = some (.int .i64 k.1.2.1)
 c2 : W.cell? ⟨n, 2, none⟩ = some (.int .i64 k.1.2.2)
 c3 : W.cell? ⟨n, 3, none⟩ = some (.string k.2)
theorem BoxS.of_block {n : Nat} {k : Sp} {W W' : World} (h : BoxS n k W) (hb : W'.heap[n]? = W.heap[n]?) : BoxS n k W' where
 c0 := (World.cell?_of_block (a := ⟨n, 0, none⟩) hb).trans h.c0
 c1 := (World.cell?_of_block (a := ⟨n, 1, none⟩) hb).trans h.c1
 c2 := (World.cell?_of_block (a := ⟨n, 2, none⟩) hb).trans h.c2
 c3 := (World.cell?_of_block (a := ⟨n, 3, none⟩) hb).trans h.c3
theorem BoxS.lt {n : Nat} {k : Sp} {W : World} (h : BoxS n k W) : n < W.heap.size := cell_lt h.c0
theorem BoxS.below {n : Nat} {k : Sp} {W W' : World} (h : BoxS n k W) (hb : Below W.heap.size W W') : BoxS n k W' := h.of_block (hb.block n h.lt)
theorem BoxS.new (w : World) (k : Sp) (t n : Nat) (hn : n = w.heap.size) : BoxS n k (w.alloc (.cells #[.string k.1.1, .int .i64 k.1.2.1, .int .i64 k.1.2.2, .string k.2] t)) where
 c0 := by rw [World.cell?_alloc_at _ _ _ _ hn]; rfl
 c1 := by rw [World.cell?_alloc_at _ _ _ _ hn]; rfl
 c2 := by rw [World.cell?_alloc_at _ _ _ _ hn]; rfl
 c3 := by rw [World.cell?_alloc_at _ _ _ _ hn]; rfl
theorem Below.grownAll {w w' : World} (h : Below w.heap.size w w') (row : Option Nat) : w.grownBy w' row := ⟨h.os, h.tape, h.output, h.size, fun k hk _ => h.block k hk⟩
theorem grown_drewN (w : World) (n : Nat) (row : Option Nat) : w.grownBy (w.drewN n) row := ⟨rfl, rfl, rfl, Nat.le_refl _, fun _ _ _ => rfl⟩
theorem grown_trans {a b' c : World} {row : Option Nat} (h : a.grownBy b' row) (k : b'.grownBy c row) : a.grownBy c row := h.andThen k fun _ hj => Or.inr hj
theorem less_any (k : Sp) (n : Int) (w : World) (p b : Nat) (m : List Ln) (h : IsStock w p b m) (hk : KeyOk k) (hn : 1 ≤ n) (hm : n ≤ atL m k) :
  Calls Tryz.prog 118 #[.pointer (some ⟨p, 0, none⟩), agS k, .int .i64 n] w fun e w' => e = .returned (.tuple #[]) ∧ IsStock w' p b (withL m k (atL m k - n)) ∧ w.grownBy w' (some b) := by
 have hB := boxS_below w k
 have h1 := h.all hB
 have hbx : BoxS w.heap.size k (boxS w k) := BoxS.new w k _ _ rfl
 have hpb := h.ne
 have hqb : w.heap.size ≠ b := fun e => by have := h.lt.2; omega
 have hg1 : w.grownBy (boxS w k) (some b) := Below.grownAll hB _
 have HW : Hid (Wf (withL m k (atL m k - n))) := h.wf.less hn hm
 have hv0 := h.wf.at_nonneg k
 have hv1 : atL m k ≤ 1099511627776 := Int.le_trans (h.wf.at_le k) (h.wf.most _)
 obtain ⟨kl, hkl⟩ := keyOf_spot hk
 have hS : IsStock (boxS w k).drew p b m := ⟨h1.cell, h1.map, h1.wf⟩
 obtain ⟨st, w2, e1, e2, e3, e4⟩ := hS.entry hk
 have hl := hS.look hk
 obtain ⟨w3, e5, e6, e7⟩ := e4 (atL m k - n)
 have hc := h1.cell
 have hb2 := BoxS.of_block (W := (boxS w k).drew) (W' := w2) (hbx.of_block rfl) (turned_block e3 hqb)
 have hc2 : w2.cell? ⟨p, 0, none⟩ = some (.map (some b)) := (turned_cell (p := ⟨p, 0, none⟩) e3 hpb).trans h1.cell
 have hb3 := BoxS.of_block (W := (boxS w k).drew) (W' := w3) (hbx.of_block rfl) (turned_block e7 hqb)
 have hc3 : w3.cell? ⟨p, 0, none⟩ = some (.map (some b)) := (turned_cell (p := ⟨p, 0, none⟩) e7 hpb).trans h1.cell
 have hg3 : w.grownBy w3 (some b) := grown_trans (grown_trans hg1 (grown_drewN _ 1 _)) e7.grown
 have hl3 : ∀ q, (Instr.lookup 95 (.map (some b)) (agS k) false).run Tryz.prog (w3.drewN q) = .ok (.int .i64 (atL m k - n)) (w3.drewN q) := fun q => (MapL.of_block (w' := w3.drewN q) e6 rfl).look_hit keyed Tryz.underlying95 hkl (List.mem_cons_self ..)
 have hD : ∀ q, ∃ w4, (∀ ty, (Builtin.delete_ #[95, 99] ty #[.map (some b), agS k]).run Tryz.prog (w3.drewN q) = .ok (.tuple #[]) w4) ∧ MapL Tryz.prog 99 w4 b ((without m k).map entN) ∧ (w3.drewN q).mapTurned w4 b := fun q => (MapL.of_block (w' := w3.drewN q) e6 rfl).drop keyed Tryz.underlying95 hkl (u := .int .i64 (atL m k - n)) (List.Perm.refl _)
 have HM : Hid (MapL Tryz.prog 99 w3 b (((k.1, k.2, atL m k - n) :: without m k).map entN)) := e6
 have HG : Hid (w.grownBy w3 (some b)) := hg3
 have HD : Hid (∀ q, ∃ w4, _) := hD
 have HP : Hid (p ≠ b) := hpb
 clear hS e3 e4 e6 e7 h1 hB h hkl hk hg1 hg3 hD hpb hqb
 have HX : Hid (atL m k - n = 0 → withL m k (atL m k - n) = without m k) := fun e => by rw [e, withL_zero]
 have HY : Hid (atL m k - n ≠ 0 → (withL m k (atL m k - n)).Perm ((k.1, k.2, atL m k - n) :: without m k)) := fun e => withL_perm e
 generalize withL m k (atL m k - n) = m' at *
 generalize without m k = mo at *
 generalize atL m k = v at *
 obtain ⟨⟨a, r, bb⟩, c⟩ := k
 unfold agS boxS at *
 simp only at *
 obtain ⟨x0, x1, x2, x3⟩ := hbx
 obtain ⟨y0, y1, y2, y3⟩ := hb2
 obtain ⟨z0, z1, z2, z3⟩ := hb3
 simp only at x0 x1 x2 x3 y0 y1 y2 y3 z0 z1 z2 z3
 go_enter Tryz.func118, Tryz.ntmps118
 go_wp2
 generalize w.alloc (.cells #[.string a, .int .i64 r, .int .i64 bb, .string c] 99) = W at *
 go_region
 by_cases hv : v - n = 0
 ·have hvb : (v - n == 0) = true := by simpa using hv
  have HX' := HX.out hv
  go_wp2
  go_quiet (fail)
  go_wp2
  obtain ⟨w4, d1, d2, d3⟩ := HD.out (nq + 1)
  have hc4 : w4.cell? ⟨p, 0, none⟩ = some (.map (some b)) := (turned_cell (p := ⟨p, 0, none⟩) d3 HP.out).trans hc3
  have hg4 : w.grownBy w4 (some b) := grown_trans (grown_trans HG.out (grown_drewN _ (nq + 1) _)) d3.grown
  clear hvb hv HX HY HM hl3 e1 e2 e5 hl
  go_region_law (refine stepL_delete rfl (.tmp 26) (.tmp 27) 95 99 rfl b _ (by simp [Act.eval]) (by simp [Act.eval]) w4 d1 ?_)
  all_goals
   go_end0
   exact ⟨rfl, ⟨hc4, by rw [HX']; exact d2, HW.out⟩, hg4⟩
 ·have hvb : (v - n == 0) = false := by simpa using hv
  have HY' := HY.out hv
  go_wp2
  go_quiet (fail)
  go_wp2
  go_end0
  exact ⟨rfl, ⟨hc3, (MapL.of_block (w' := w3.drewN _) HM.out rfl).perm (HY'.symm.map entN), HW.out⟩, grown_trans HG.out (grown_drewN _ _ _)⟩
theorem takeL_zero {m : List Ln} {k : Sp} {n : Int} (h : takeE m k n = 0) : takeL m k n = withL m k (atL m k - n) := by unfold takeL; rw [if_pos h]
theorem takeL_err {m : List Ln} {k : Sp} {n : Int} (h : takeE m k n ≠ 0) : takeL m k n = m := by unfold takeL; rw [if_neg h]
abbrev boxPS (w : World) (x : Pl) (c : ByteArray) : World := (w.alloc (.cells #[.string x.1, .int .i64 x.2.1, .int .i64 x.2.2] 41)).alloc (.cells #[.string x.1, .int .i64 x.2.1, .int .i64 x.2.2, .string c] 99)
theorem boxPS_below (w : World) (x : Pl) (c : ByteArray) : Below w.heap.size w (boxPS w x c) := ((Below.refl _ w).alloc (Nat.le_refl _) _).alloc (by simp) _
theorem take_any (x : Pl) (c : ByteArray) (n : Int) (w : World) (s : Nat → Addr) (p b : Nat) (m : List Ln) (h : IsStock w p b m) (hk : KeyOk (x, c)) (hs : Five w s) :
  Calls Tryz.prog 99 #[.pointer (some ⟨p, 0, none⟩), agP x, .string c, .int .i64 n] w fun e w' => e = .returned (errP s (takeE m (x, c) n)) ∧ IsStock w' p b (takeL m (x, c) n) ∧ w.grownBy w' (some b) := by
 have hB := boxPS_below w x c
 have h1 := h.all hB
 have hbx : BoxS (w.heap.size + 1) (x, c) (boxPS w x c) := BoxS.new _ (x, c) _ _ (by simp)
 have hC := checkTake_any (x, c) n _ s p b m h1 hk (hs.below hB)
 have hg1 : w.grownBy (boxPS w x c) (some b) := Below.grownAll hB _
 by_cases h0 : takeE m (x, c) n = 0
 ·obtain ⟨t1, _, t3⟩ := takeE_zero h0
  have hL := fun w1 (hb : Below (boxPS w x c).heap.size (boxPS w x c) w1) => less_any (x, c) n w1 p b m (h1.all hb) hk t1 t3
  rw [h0, errP_zero] at hC
  rw [h0, errP_zero, takeL_zero h0]
  generalize withL m (x, c) (atL m (x, c) - n) = m' at *
  clear hs hk h h1 h0 t1 t3
  obtain ⟨a, r, bb⟩ := x
  unfold agP agS boxPS at *
  simp only at *
  have HC : Hid (Calls Tryz.prog 117 _ _ _) := hC
  have HG : Hid (w.grownBy _ (some b)) := hg1
  clear hC hg1 hB
  go_enter Tryz.func99, Tryz.ntmps99
  go_wp2_with (first
   | (go_at_call 117; refine HC.out.mono ?_; rintro e w1 ⟨rfl, hb⟩; obtain ⟨y0, y1, y2, y3⟩ := hbx.below hb; simp only at y0 y1 y2 y3)
   | (go_at_call 118; refine (hL _ hb).mono ?_; rintro e w2 ⟨rfl, hi, hg⟩))
  go_ret
  exact ⟨rfl, hi, grown_trans (grown_trans HG.out (Below.grownAll hb _)) hg⟩
 ·rw [errP_pos s h0] at hC
  rw [errP_pos s h0, takeL_err h0]
  generalize s (takeE m (x, c) n - 1) = ad at *
  clear hs hk h h0
  obtain ⟨a, r, bb⟩ := x
  unfold agP agS boxPS at *
  simp only at *
  have HC : Hid (Calls Tryz.prog 117 _ _ _) := hC
  have HG : Hid (w.grownBy _ (some b)) := hg1
  have HS : Hid (IsStock _ p b m) := h1
  clear hC hg1 hB h1 hbx
  go_enter Tryz.func99, Tryz.ntmps99
  go_wp2_with (go_at_call 117; refine HC.out.mono ?_; rintro e w1 ⟨rfl, hb⟩)
  go_ret
  exact ⟨rfl, HS.out.all hb, grown_trans HG.out (Below.grownAll hb _)⟩
abbrev boxSS (w : World) (k k' : Sp) : World := (w.alloc (.cells #[.string k.1.1, .int .i64 k.1.2.1, .int .i64 k.1.2.2, .string k.2] 99)).alloc (.cells #[.string k'.1.1, .int .i64 k'.1.2.1, .int .i64 k'.1.2.2, .string k'.2] 99)
theorem linesAfter_any (k k' : Sp) (n : Int) (w : World) (p b : Nat) (m : List Ln) (h : IsStock w p b m) (hk : KeyOk k) (hk' : KeyOk k') :
  Calls Tryz.prog 119 #[.pointer (some ⟨p, 0, none⟩), agS k, agS k', .int .i64 n] w fun e w' => e = .returned (.int .i64 (linesA m k k' n)) ∧ Below w.heap.size w w' := by
 have hB : Below w.heap.size w (boxSS w k k') := ((Below.refl _ w).alloc (Nat.le_refl _) _).alloc (by simp) _
 have h1 := h.all hB
 have hl1 := h1.looks hk
 have hl2 := h1.looks hk'
 have hM := h1.map
 have hNm : (m.map entN).length = m.length := by simp
 have hc := h1.cell
 have hlen := h.wf.len
 have HB : Hid (Below _ _ _) := hB
 have HN : Hid (linesA m k k' n = (m.length : Int) - (if atL m k = n then 1 else 0) + (if atL m k' = 0 then 1 else 0)) := rfl
 clear hB h1 h hk hk'
 generalize m.map entN = Lm at *
 generalize linesA m k k' n = N at *
 generalize atL m k = v at *
 generalize atL m k' = v' at *
 generalize m.length = ln at *
 obtain ⟨⟨a, r, bb⟩, c⟩ := k
 obtain ⟨⟨a', r', bb'⟩, c'⟩ := k'
 unfold agS boxSS at *
 simp only at *
 by_cases h1 : v = n
 ·by_cases h2 : v' = 0
  ·have e1 : (v == n) = true := by simpa using h1
   have e2 : (v' == 0) = true := by simpa using h2
   have HE : Hid (N = (ln : Int) - 1 + 1) := by show _ = _; rw [HN.out, if_pos h1, if_pos h2]
   clear HN h1 h2
   go_enter Tryz.func119, Tryz.ntmps119
   go_wp2_with (at_len; refine wpL_len rfl _ 95 rfl 99 3 Tryz.underlying95 b Lm ln hNm rfl hM ?_)
   clear hM
   go_quiet (fail)
   go_wp2
   go_quiet (fail)
   go_wp2
   go_ret
   exact ⟨by rw [HE.out]; first | rfl | (show Ending.returned (Value.int .i64 _) = Ending.returned (Value.int .i64 _); congr 2; omega), by first | exact below_drewN HB.out _ | exact below_drewN (below_drewN HB.out _) _⟩
  ·have e1 : (v == n) = true := by simpa using h1
   have e2 : (v' == 0) = false := by simpa using h2
   have HE : Hid (N = (ln : Int) - 1 + 0) := by show _ = _; rw [HN.out, if_pos h1, if_neg h2]
   clear HN h1 h2
   go_enter Tryz.func119, Tryz.ntmps119
   go_wp2_with (at_len; refine wpL_len rfl _ 95 rfl 99 3 Tryz.underlying95 b Lm ln hNm rfl hM ?_)
   clear hM
   go_quiet (fail)
   go_wp2
   go_quiet (fail)
   go_wp2
   go_ret
   exact ⟨by rw [HE.out]; first | rfl | (show Ending.returned (Value.int .i64 _) = Ending.returned (Value.int .i64 _); congr 2; omega), by first | exact below_drewN HB.out _ | exact below_drewN (below_drewN HB.out _) _⟩
 ·by_cases h2 : v' = 0
  ·have e1 : (v == n) = false := by simpa using h1
   have e2 : (v' == 0) = true := by simpa using h2
   have HE : Hid (N = (ln : Int) - 0 + 1) := by show _ = _; rw [HN.out, if_neg h1, if_pos h2]
   clear HN h1 h2
   go_enter Tryz.func119, Tryz.ntmps119
   go_wp2_with (at_len; refine wpL_len rfl _ 95 rfl 99 3 Tryz.underlying95 b Lm ln hNm rfl hM ?_)
   clear hM
   go_quiet (fail)
   go_wp2
   go_quiet (fail)
   go_wp2
   go_ret
   exact ⟨by rw [HE.out]; first | rfl | (show Ending.returned (Value.int .i64 _) = Ending.returned (Value.int .i64 _); congr 2; omega), by first | exact below_drewN HB.out _ | exact below_drewN (below_drewN HB.out _) _⟩
  ·have e1 : (v == n) = false := by simpa using h1
   have e2 : (v' == 0) = false := by simpa using h2
   have HE : Hid (N = (ln : Int) - 0 + 0) := by show _ = _; rw [HN.out, if_neg h1, if_neg h2]
   clear HN h1 h2
   go_enter Tryz.func119, Tryz.ntmps119
   go_wp2_with (at_len; refine wpL_len rfl _ 95 rfl 99 3 Tryz.underlying95 b Lm ln hNm rfl hM ?_)
   clear hM
   go_quiet (fail)
   go_wp2
   go_quiet (fail)
   go_wp2
   go_ret
   exact ⟨by rw [HE.out]; first | rfl | (show Ending.returned (Value.int .i64 _) = Ending.returned (Value.int .i64 _); congr 2; omega), by first | exact below_drewN HB.out _ | exact below_drewN (below_drewN HB.out _) _⟩
theorem putL_err {m : List Ln} {x : Pl} {c : ByteArray} {n : Int} (h : putE m x c n ≠ 0) : putL m x c n = m := by unfold putL; rw [if_neg h]
theorem putL_zero {m : List Ln} {x : Pl} {c : ByteArray} {n : Int} (h : putE m x c n = 0) : putL m x c n = withL m (x, c) (atL m (x, c) + n) := by unfold putL; rw [if_pos h]
theorem putE_place {m : List Ln} {x : Pl} {c : ByteArray} {n : Int} (h : placeErr x ≠ 0) : putE m x c n = placeErr x := by unfold putE; rw [if_neg h]
theorem putE_name {m : List Ln} {x : Pl} {c : ByteArray} {n : Int} (h : placeErr x = 0) (h1 : isName c.data.toList = false) : putE m x c n = 5 := by unfold putE; rw [if_pos h, h1]; rfl
theorem putE_num {m : List Ln} {x : Pl} {c : ByteArray} {n : Int} (h : placeErr x = 0) (h1 : isName c.data.toList = true) (h2 : numW n = false ∨ 1099511627776 < ofL m c + n) : putE m x c n = 2 := by
 unfold putE; rw [if_pos h, if_pos h1, if_neg]
 simp only [Bool.and_eq_true, decide_eq_true_eq]
 rintro ⟨a, b⟩
 rcases h2 with h2 | h2
 ·rw [a] at h2; cases h2
 ·omega
theorem putE_full {m : List Ln} {x : Pl} {c : ByteArray} {n : Int} (h : placeErr x = 0) (h1 : isName c.data.toList = true) (h2 : numW n = true) (h3 : ofL m c + n ≤ 1099511627776) : putE m x c n = if atL m (x, c) = 0 ∧ 200 ≤ m.length then 8 else 0 := by
 unfold putE; rw [if_pos h, if_pos h1, if_pos]
 simp [h2, h3]
abbrev boxP (w : World) (x : Pl) : World := w.alloc (.cells #[.string x.1, .int .i64 x.2.1, .int .i64 x.2.2] 41)
theorem boxP_below (w : World) (x : Pl) : Below w.heap.size w (boxP w x) := (Below.refl _ w).alloc (Nat.le_refl _) _
theorem put_place (x : Pl) (c : ByteArray) (n : Int) (w : World) (s : Nat → Addr) (p : Nat) (hz : x.1.size ≤ maxLen) (hs : Five w s) (h0 : placeErr x ≠ 0) :
  Calls Tryz.prog 98 #[.pointer (some ⟨p, 0, none⟩), agP x, .string c, .int .i64 n] w fun e w' => e = .returned (errP s (placeErr x)) ∧ Below w.heap.size w w' := by
 have hB := boxP_below w x
 have hC := pcheck_any x _ s hz (hs.two.below hB)
 rw [errP_pos s h0] at hC ⊢
 generalize s (placeErr x - 1) = ad at *
 clear hs hz h0
 obtain ⟨a, r, bb⟩ := x
 unfold agP boxP at *
 simp only at *
 have HC : Hid (Calls Tryz.prog 76 _ _ _) := hC
 have HB : Hid (Below _ _ _) := hB
 clear hC hB
 go_enter Tryz.func98, Tryz.ntmps98
 go_wp2_with (go_at_call 76; refine HC.out.mono ?_; rintro e w1 ⟨rfl, hb⟩)
 go_ret
 exact ⟨rfl, HB.out.trans (hb.mono HB.out.size)⟩
theorem put_name (x : Pl) (c : ByteArray) (n : Int) (w : World) (s : Nat → Addr) (p : Nat) (hz : x.1.size ≤ maxLen) (hz' : c.size ≤ maxLen) (hs : Five w s) (h0 : placeErr x = 0) (h1 : isName c.data.toList = false) :
  Calls Tryz.prog 98 #[.pointer (some ⟨p, 0, none⟩), agP x, .string c, .int .i64 n] w fun e w' => e = .returned (err (s 4)) ∧ Below w.heap.size w w' := by
 have hB := boxP_below w x
 have hC := pcheck_any x _ s hz (hs.two.below hB)
 rw [h0, errP_zero] at hC
 have hN : ∀ w, Calls Tryz.prog 77 #[.string c] w _ := fun w => name_any c w hz'
 rw [h1] at hN
 have hg := fun w1 (hb : Below w.heap.size w w1) => (hs.two.below hb).name
 clear hs hz hz' h0 h1
 obtain ⟨a, r, bb⟩ := x
 unfold agP boxP at *
 simp only at *
 have HC : Hid (Calls Tryz.prog 76 _ _ _) := hC
 have HB : Hid (Below _ _ _) := hB
 clear hC hB
 go_enter Tryz.func98, Tryz.ntmps98
 go_wp2_with (first
  | (go_at_call 76; refine HC.out.mono ?_; rintro e w1 ⟨rfl, hb⟩; have g := hg w1 (HB.out.trans (hb.mono HB.out.size)))
  | (go_at_call 77; refine (hN _).mono ?_; rintro e w2 ⟨rfl, rfl⟩))
 go_ret
 exact ⟨rfl, HB.out.trans (hb.mono HB.out.size)⟩
theorem put_num (x : Pl) (c : ByteArray) (n : Int) (w : World) (s : Nat → Addr) (p b : Nat) (m : List Ln) (h : IsStock w p b m) (hz : x.1.size ≤ maxLen) (hz' : c.size ≤ maxLen) (hs : Five w s) (h0 : placeErr x = 0) (h1 : isName c.data.toList = true) (h2 : numW n = false ∨ (numW n = true ∧ 1099511627776 < ofL m c + n)) :
  Calls Tryz.prog 98 #[.pointer (some ⟨p, 0, none⟩), agP x, .string c, .int .i64 n] w fun e w' => e = .returned (err (s 1)) ∧ Below w.heap.size w w' := by
 have hB := boxP_below w x
 have hC := pcheck_any x _ s hz (hs.two.below hB)
 rw [h0, errP_zero] at hC
 have hN : ∀ w, Calls Tryz.prog 77 #[.string c] w _ := fun w => name_any c w hz'
 rw [h1] at hN
 have hg := fun w1 (hb : Below w.heap.size w w1) => (hs.two.below hb).bound
 have hW := fun w => numWell_any n w
 have hO := fun w1 (hb : Below w.heap.size w w1) => of_any c w1 p b m (h.all hb)
 obtain ⟨o1, o2⟩ := h.wf.of_bound c
 clear hs hz hz' h0 h1 h
 generalize ofL m c = O at *
 obtain ⟨a, r, bb⟩ := x
 unfold agP boxP at *
 simp only at *
 have HC : Hid (Calls Tryz.prog 76 _ _ _) := hC
 have HB : Hid (Below _ _ _) := hB
 clear hC hB
 rcases h2 with h2 | ⟨h2, h3⟩
 ·rw [h2] at hW
  clear hO
  go_enter Tryz.func98, Tryz.ntmps98
  go_wp2_with (first
   | (go_at_call 76; refine HC.out.mono ?_; rintro e w1 ⟨rfl, hb⟩; have g := hg w1 (HB.out.trans (hb.mono HB.out.size)))
   | (go_at_call 77; refine (hN _).mono ?_; rintro e w2 ⟨rfl, rfl⟩)
   | (go_at_call 116; refine (hW _).mono ?_; rintro e w3 ⟨rfl, rfl⟩))
  go_ret
  exact ⟨rfl, HB.out.trans (hb.mono HB.out.size)⟩
 ·have hn := (numW_iff n).1 h2
  rw [h2] at hW
  obtain ⟨n1, n2⟩ := hn
  go_enter Tryz.func98, Tryz.ntmps98
  go_wp2_with (first
   | (go_at_call 76; refine HC.out.mono ?_; rintro e w1 ⟨rfl, hb⟩; have hb1 : Below w.heap.size w w1 := HB.out.trans (hb.mono HB.out.size))
   | (go_at_call 77; refine (hN _).mono ?_; rintro e w2 ⟨rfl, rfl⟩)
   | (go_at_call 116; refine (hW _).mono ?_; rintro e w3 ⟨rfl, rfl⟩)
   | (go_at_call 70; refine (hO _ hb1).mono ?_; rintro e w4 ⟨rfl, hb4⟩; have hb5 : Below w.heap.size w w4 := hb1.trans (hb4.mono hb1.size); have g := hg w4 hb5))
  go_ret
  exact ⟨rfl, hb5⟩
theorem keyOk_of {x : Pl} {c : ByteArray} (h0 : placeErr x = 0) (hz : x.1.size ≤ maxLen) (hz' : c.size ≤ maxLen) : KeyOk (x, c) := by
 obtain ⟨_, a1, a2, a3, a4⟩ := okP_bounds ((okP_err x).2 h0)
 obtain ⟨a, r, bb⟩ := x
 simp only at a1 a2 a3 a4
 exact ⟨hz, WalkArith.wf_i64 (show _ ≤ r ∧ r ≤ _ by omega), WalkArith.wf_i64 (show _ ≤ bb ∧ bb ≤ _ by omega), hz'⟩
theorem put_in (x : Pl) (c : ByteArray) (n : Int) (w : World) (s : Nat → Addr) (p b : Nat) (m : List Ln) (h : IsStock w p b m) (hz : x.1.size ≤ maxLen) (hz' : c.size ≤ maxLen) (hs : Five w s) (h0 : placeErr x = 0) (h1 : isName c.data.toList = true) (h2 : numW n = true) (h3 : ofL m c + n ≤ 1099511627776) :
  Calls Tryz.prog 98 #[.pointer (some ⟨p, 0, none⟩), agP x, .string c, .int .i64 n] w fun e w' => e = .returned (errP s (putE m x c n)) ∧ IsStock w' p b (putL m x c n) ∧ w.grownBy w' (some b) := by
 have hB := boxP_below w x
 have hbx : BoxAt w.heap.size x (boxP w x) := BoxAt.new w x _ _ rfl
 have hC := pcheck_any x _ s hz (hs.two.below hB)
 rw [h0, errP_zero] at hC
 have hN : ∀ w, Calls Tryz.prog 77 #[.string c] w _ := fun w => name_any c w hz'
 rw [h1] at hN
 have hW := fun w => numWell_any n w
 rw [h2] at hW
 have hO := fun w1 (hb : Below w.heap.size w w1) => of_any c w1 p b m (h.all hb)
 obtain ⟨o1, o2⟩ := h.wf.of_bound c
 obtain ⟨n1, n2⟩ := (numW_iff n).1 h2
 have hk : KeyOk (x, c) := keyOk_of h0 hz hz'
 have HE := putE_full (m := m) (n := n) h0 h1 h2 h3
 have hv0 := h.wf.at_nonneg (x, c)
 have hv1 : atL m (x, c) ≤ 1099511627776 := Int.le_trans (h.wf.at_le (x, c)) (h.wf.most _)
 have HF : Hid (∀ w4, Below w.heap.size w w4 → IsStock w4 p b m) := fun w4 hb => h.all hb
 have HV : Hid (∀ w4, Below w.heap.size w w4 → Five w4 s) := fun w4 hb => hs.below hb
 have hpb : Hid (p ≠ b) := h.ne
 have hlb : Hid (b < w.heap.size) := h.lt.2
 have HP := h.wf.put x c n
 have HK : Hid (KeyOk (x, c)) := hk
 have HA : Hid (atL m (x, c) + n ≤ 9223372036854775807) := by have := h.wf.at_le (x, c); show _ ≤ _; omega
 clear hs hz hz' h0 h1 h hk
 generalize hO' : ofL m c = O at *
 have HO' : Hid (ofL m c = O) := hO'
 clear hO'
 obtain ⟨a, r, bb⟩ := x
 unfold agP boxP at *
 simp only at *
 have HC : Hid (Calls Tryz.prog 76 _ _ _) := hC
 have HB : Hid (Below _ _ _) := hB
 have HE' : Hid (putE m (a, r, bb) c n = _) := HE
 have HP' : Hid (Wf _) := HP
 clear hC hB HE HP
 obtain ⟨v, hv⟩ : ∃ v, v = atL m ((a, r, bb), c) := ⟨_, rfl⟩
 rw [← hv] at hv0 hv1
 have Hv : Hid (v = atL m ((a, r, bb), c)) := hv
 clear hv
 go_enter Tryz.func98, Tryz.ntmps98
 go_wp2_with (first
  | (go_at_call 76; refine HC.out.mono ?_; rintro e w1 ⟨rfl, hb⟩; have hb1 : Below w.heap.size w w1 := HB.out.trans (hb.mono HB.out.size); have hbx1 := hbx.below hb)
  | (go_at_call 77; refine (hN _).mono ?_; rintro e w2 ⟨rfl, rfl⟩)
  | (go_at_call 116; refine (hW _).mono ?_; rintro e w3 ⟨rfl, rfl⟩)
  | (go_at_call 70; refine (hO _ hb1).mono ?_; rintro e w4 ⟨rfl, hb4⟩; obtain ⟨y0, y1, y2⟩ := hbx1.below hb4; simp only at y0 y1 y2; have hb5 : Below w.heap.size w w4 := hb1.trans (hb4.mono hb1.size)))
 have hbS : BoxS w4.heap.size ((a, r, bb), c) (w4.alloc (.cells #[.string a, .int .i64 r, .int .i64 bb, .string c] 99)) := BoxS.new w4 ((a, r, bb), c) _ _ rfl
 have hbW : Below w.heap.size w (w4.alloc (.cells #[.string a, .int .i64 r, .int .i64 bb, .string c] 99)) := hb5.alloc hb5.size _
 have hqb : w4.heap.size ≠ b := fun e => by have := hlb.out; have := hb5.size; omega
 clear y0 y1 y2 hb5 hb4 hb1 hb hbx1 hbx hO hN hW HB HC
 generalize w4.alloc (.cells #[.string a, .int .i64 r, .int .i64 bb, .string c] 99) = W at *
 generalize w4.heap.size = q at *
 have hSt := HF.out W hbW
 have hl : ∀ k, (Instr.lookup 95 (.map (some b)) (.agg #[.string a, .int .i64 r, .int .i64 bb, .string c]) false).run Tryz.prog (W.drewN k) = .ok (.int .i64 v) (W.drewN k) := fun k => by rw [Hv.out]; exact hSt.looks HK.out k
 obtain ⟨ln, hes⟩ : ∃ ln : Nat, ln = m.length := ⟨_, rfl⟩
 have ho : ∀ k, (Builtin.len_ #[95] 3 #[.map (some b)]).run Tryz.prog (W.drewN k) = .ok (.int .i64 ln) (W.drewN k) := fun k => by
  have := (hSt.drew k).map.len Tryz.underlying95 3
  rw [List.length_map, ← hes] at this
  exact this
 have hlen := hSt.wf.len
 have hc := hSt.cell
 have HS : Hid (IsStock W p b m) := hSt
 have HL : Hid (ln = m.length) := hes
 have hg := (HV.out W hbW).full
 have HbW : Hid (Below w.heap.size w W) := hbW
 have hl200 : ln ≤ 200 := by rw [hes]; exact hlen
 obtain ⟨x0, x1, x2, x3⟩ := hbS
 have HBS : Hid (BoxS q ((a, r, bb), c) W) := ⟨x0, x1, x2, x3⟩
 simp only at x0 x1 x2 x3
 clear hSt hbW hlen hes
 by_cases hf : v = 0 ∧ 200 ≤ ln
 ·obtain ⟨f1, f2⟩ := hf
  have e1 : (v == 0) = true := by simpa using f1
  have hd : decide (200 ≤ ln) = true := decide_eq_true f2
  have HZ : Hid (putE m (a, r, bb) c n = 8) := by
   show _ = _
   rw [HE'.out, if_pos ⟨by rw [← Hv.out]; exact f1, by rw [← HL.out]; exact f2⟩]
  clear f1
  go_quiet (fail)
  go_wp2
  go_ret
  refine ⟨by rw [HZ.out]; rfl, ?_, grown_trans (Below.grownAll HbW.out _) (grown_drewN _ _ _)⟩
  rw [putL_err (by rw [HZ.out]; decide)]
  exact HS.out.drew _
 ·have HZ : Hid (putE m (a, r, bb) c n = 0) := by
   show _ = _
   rw [HE'.out, if_neg]
   rintro ⟨f1, f2⟩
   exact hf ⟨by rw [Hv.out]; exact f1, by rw [HL.out]; exact f2⟩
  have HQ : Hid (∀ k, ∃ w3, w.grownBy w3 (some b) ∧ IsStock w3 p b (putL m (a, r, bb) c n) ∧ ∃ (st : Nat) (w2 : World), (Instr.mapEntry 95 (.map (some b)) (.agg #[.string a, .int .i64 r, .int .i64 bb, .string c])).run Tryz.prog (W.drewN (k + 1)) = .ok (.tuple #[.int .i64 v, .int .i64 st]) w2 ∧ (Instr.lookup 95 (.map (some b)) (.agg #[.string a, .int .i64 r, .int .i64 bb, .string c]) false).run Tryz.prog w2 = .ok (.int .i64 v) w2 ∧ BoxS q ((a, r, bb), c) w2 ∧ w2.cell? ⟨p, 0, none⟩ = some (.map (some b)) ∧
    (Instr.entryStore 95 (.map (some b)) (.int .i64 st) (.int .i64 (v + n))).run Tryz.prog w2 = .ok () w3) := fun k => by
   have hS : IsStock (W.drewN (k + 1)) p b m := ⟨HS.out.cell, HS.out.map, HS.out.wf⟩
   obtain ⟨st, w2, g1, g2, g3, g4⟩ := hS.entry HK.out
   rw [← Hv.out] at g1 g2
   obtain ⟨w3, g5, g6, g7⟩ := g4 (v + n)
   have hne : v + n ≠ 0 := by omega
   refine ⟨w3, grown_trans (grown_trans (Below.grownAll HbW.out _) (grown_drewN _ (k + 1) _)) g7.grown, ⟨(turned_cell (p := ⟨p, 0, none⟩) g7 hpb.out).trans hS.cell, ?_, HP'.out⟩, st, w2, g1, g2, BoxS.of_block (W := W.drewN (k + 1)) (HBS.out.of_block rfl) (turned_block g3 hqb), (turned_cell (p := ⟨p, 0, none⟩) g3 hpb.out).trans hS.cell, g5⟩
   rw [putL_zero HZ.out, ← Hv.out]
   exact g6.perm ((withL_perm hne).symm.map entN)
  have hn9 := HA.out
  rw [← Hv.out] at hn9
  by_cases f1 : v = 0
  ·have e1 : (v == 0) = true := by simpa using f1
   have f2 : ln < 200 := Nat.lt_of_not_le fun f2 => hf ⟨f1, f2⟩
   have hd : decide (200 ≤ ln) = false := decide_eq_false (by omega)
   clear hf f1
   go_quiet (fail)
   go_wp2
   obtain ⟨w3, hg3, hS3, st, w2, g1, g2, ⟨z0, z1, z2, z3⟩, g4, g5⟩ := HQ.out nq
   simp only at z0 z1 z2 z3
   go_region
   go_wp2
   go_ret
   exact ⟨by rw [HZ.out]; rfl, hS3, hg3⟩
  ·have e1 : (v == 0) = false := by simpa using f1
   clear hf f1
   go_quiet (fail)
   go_wp2
   obtain ⟨w3, hg3, hS3, st, w2, g1, g2, ⟨z0, z1, z2, z3⟩, g4, g5⟩ := HQ.out nq
   simp only at z0 z1 z2 z3
   go_region
   go_wp2
   go_ret
   exact ⟨by rw [HZ.out]; rfl, hS3, hg3⟩
theorem put_any (x : Pl) (c : ByteArray) (n : Int) (w : World) (s : Nat → Addr) (p b : Nat) (m : List Ln) (h : IsStock w p b m) (hz : x.1.size ≤ maxLen) (hz' : c.size ≤ maxLen) (hs : Five w s) :
  Calls Tryz.prog 98 #[.pointer (some ⟨p, 0, none⟩), agP x, .string c, .int .i64 n] w fun e w' => e = .returned (errP s (putE m x c n)) ∧ IsStock w' p b (putL m x c n) ∧ w.grownBy w' (some b) := by
 by_cases h0 : placeErr x = 0
 ·cases h1 : isName c.data.toList with
  | false =>
   have e := putE_name (m := m) (n := n) h0 h1
   rw [putL_err (by rw [e]; decide), e]
   exact (put_name x c n w s p hz hz' hs h0 h1).mono fun e w' ⟨he, hb⟩ => ⟨he, h.all hb, Below.grownAll hb _⟩
  | true =>
   cases h2 : numW n with
   | false =>
    have e := putE_num (m := m) (n := n) h0 h1 (Or.inl h2)
    rw [putL_err (by rw [e]; decide), e]
    exact (put_num x c n w s p b m h hz hz' hs h0 h1 (Or.inl h2)).mono fun e w' ⟨he, hb⟩ => ⟨he, h.all hb, Below.grownAll hb _⟩
   | true =>
    by_cases h3 : ofL m c + n ≤ 1099511627776
    ·exact put_in x c n w s p b m h hz hz' hs h0 h1 h2 h3
    ·have h4 : 1099511627776 < ofL m c + n := by omega
     have e := putE_num (m := m) (n := n) h0 h1 (Or.inr h4)
     rw [putL_err (by rw [e]; decide), e]
     exact (put_num x c n w s p b m h hz hz' hs h0 h1 (Or.inr ⟨h2, h4⟩)).mono fun e w' ⟨he, hb⟩ => ⟨he, h.all hb, Below.grownAll hb _⟩
 ·have e := putE_place (m := m) (c := c) (n := n) h0
  rw [putL_err (by rw [e]; exact h0), e]
  exact (put_place x c n w s p hz hs h0).mono fun e w' ⟨he, hb⟩ => ⟨he, h.all hb, Below.grownAll hb _⟩
end Go.Proofs.YtppodkkefegbkaaGreatDoor
namespace Go.Proofs.YtppodkkefegbkaaGreatDoor
open Go.RowKit Go.Lib Go.Sort Go.Shelf
abbrev boxN2 (w : World) (x y : Ln) : World := (w.alloc (.cells #[.string x.1.1, .int .i64 x.1.2.1, .int .i64 x.1.2.2, .string x.2.1, .int .i64 x.2.2] 48)).alloc (.cells #[.string y.1.1, .int .i64 y.1.2.1, .int .i64 y.1.2.2, .string y.2.1, .int .i64 y.2.2] 48)
theorem boxN2_grew (w : World) (x y : Ln) : Grew w (boxN2 w x y) := ((Grew.refl w).alloc _).alloc _
theorem boxN2_first (w : World) (x y : Ln) : LineAt (boxN2 w x y) w.heap.size 0 x := (LineAt.new w x _ _ rfl).below ((Below.refl _ _).alloc (Nat.le_refl _) _)
theorem boxN2_second (w : World) (x y : Ln) : LineAt (boxN2 w x y) (w.heap.size + 1) 0 y := LineAt.new _ y _ _ (by simp)
theorem encN_cells (w : World) (l : Ln) (t n : Nat) (hn : n = w.heap.size) : ∀ j u, (encN l)[j]? = some u → (w.alloc (.cells #[.string l.1.1, .int .i64 l.1.2.1, .int .i64 l.1.2.2, .string l.2.1, .int .i64 l.2.2] t)).cell? ((⟨n, 0, none⟩ : Addr).add j) = some u := by
 intro j u hj
 rw [Go.WideShapes.add_plain, Nat.zero_add, World.cell?_alloc_at _ _ _ _ hn]
 simpa [encN] using hj
end Go.Proofs.YtppodkkefegbkaaGreatDoor
