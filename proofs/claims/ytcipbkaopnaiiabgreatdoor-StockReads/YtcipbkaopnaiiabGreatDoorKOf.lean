/-
  What Of answers: the pieces of a lot, in whatever order the map is ranged over; nothing old is turned.
-/
import Derived.Test.YtcipbkaopnaiiabGreatDoorKStock
namespace Go.Proofs.YtcipbkaopnaiiabGreatDoor
open Go.RowKit Go.Lib Go.Sort
open Go.Maps (Keyed)

theorem RangeL.perm {P : Program} {k : TypeId} {w : World} {b r : Nat} {L T T' : List Ent} (h : RangeL P k w b r L T) (hp : T.Perm T') : RangeL P k w b r L T' := by
  obtain ⟨es, clock, since, seen, c0, hb, hs, hk, hL, hr, hold, hT, rest⟩ := h
  exact ⟨es, clock, since, seen, c0, hb, hs, hk, hL, hr, hold, hT.trans hp, rest⟩
theorem perm_map_cons {t : List Ln} {x : Ent} {T : List Ent} (h : (t.map entN).Perm (x :: T)) : ∃ l t', x = entN l ∧ t.Perm (l :: t') ∧ T.Perm (t'.map entN) := by
  obtain ⟨l, hl, e⟩ := List.mem_map.1 (h.mem_iff.2 (List.mem_cons_self ..))
  obtain ⟨s1, s2, rfl⟩ := List.append_of_mem hl
  have h1 : (s1 ++ l :: s2).Perm (l :: (s1 ++ s2)) := List.perm_middle
  refine ⟨l, s1 ++ s2, e.symm, h1, ?_⟩
  have h2 := (h1.map entN).symm.trans h
  rw [List.map_cons, e] at h2
  exact h2.cons_inv.symm
section
variable {P : Program} {k : TypeId} {w : World} {ops : Array Oper} {rest : List Oper} {o : Oper} {a : Act} {Q : Exit → Act → World → Prop}
/-- A range's step over a stock's map. -/
theorem wpK_next (hg : o.guard = none) (it : Operand) (hop : o.op = Op.next it false) (b r : Nat) (L : List Ent) (t : List Ln) (hit : a.eval it = .pointer (some ⟨r, 0, none⟩)) (h : RangeL P k w b r L (t.map entN))
    (hDone : t = [] → wpList P ops Q rest (a.put o.dst (.tuple #[.bool false])) w)
    (hMore : ∀ (za : ByteArray) (zr zb : Int) (zc : ByteArray) (zn : Int) t' w', t.Perm (((za, zr, zb), zc, zn) :: t') → RangeL P k w' b r L (t'.map entN) → w.grownBy w' (some r) → w'.heap.size = w.heap.size → (Instr.entry (.pointer (some ⟨r, 0, none⟩))).run P w' = .ok (.tuple #[.agg #[.string za, .int .i64 zr, .int .i64 zb, .string zc], .int .i64 zn]) w' →
      wpList P ops Q rest (a.put o.dst (.tuple #[.bool true, .agg #[.string za, .int .i64 zr, .int .i64 zb, .string zc], .int .i64 zn])) w') : wpList P ops Q (o :: rest) a w := by
  refine wpL_next hg it hop k b r L (t.map entN) hit h (fun e => hDone (by simpa using e)) fun x T' w' hp hrg hgr hsz hen => ?_
  obtain ⟨l, t', rfl, h1, h2⟩ := perm_map_cons hp
  obtain ⟨⟨za, zr, zb⟩, zc, zn⟩ := l
  exact hMore za zr zb zc zn t' w' h1 (hrg.perm h2) hgr hsz hen
end
theorem of_step {m d t t' : List Ln} {l : Ln} (c : ByteArray) (hw : Wf m) (hp : (d ++ t).Perm m) (hp1 : t.Perm (l :: t')) :
    0 ≤ ofL d c ∧ ofL d c + (if l.2.1 = c then l.2.2 else 0) ≤ 1099511627776 ∧ 1 ≤ l.2.2 ∧ l.2.2 ≤ 1099511627776 ∧ ((d ++ [l]) ++ t').Perm m ∧ ofL (d ++ [l]) c = ofL d c + (if l.2.1 = c then l.2.2 else 0) := by
  have h1 : ((d ++ [l]) ++ t').Perm m := by
    rw [List.append_assoc]
    exact ((hp1.symm.append_left d)).trans hp
  have hpos : ∀ x ∈ m, 1 ≤ x.2.2 := hw.pos
  have hl : l ∈ m := h1.mem_iff.1 (by simp)
  have e := ofL_perm h1 c
  rw [ofL_append] at e
  have e1 : ofL (d ++ [l]) c = ofL d c + (if l.2.1 = c then l.2.2 else 0) := by rw [ofL_append, ofL_cons, ofL_nil]; omega
  have n1 := ofL_nonneg (m := d) (fun x hx => hpos x (h1.mem_iff.1 (by simp [hx]))) c
  have n2 := ofL_nonneg (m := t') (fun x hx => hpos x (h1.mem_iff.1 (by simp [hx]))) c
  have := hw.most c
  exact ⟨n1, by omega, hpos l hl, hw.qty hl, h1, e1⟩
theorem grown_below {w wr w1 : World} {r : Nat} (hb : Below w.heap.size w wr) (hr : w.heap.size ≤ r) (hg : wr.grownBy w1 (some r)) : Below w.heap.size w w1 :=
  hb.trans ⟨hg.os, hg.tape, hg.output, hg.size, fun k hk => hg.block k (Nat.lt_of_lt_of_le hk hb.size) (fun e => by cases e; omega)⟩
set_option maxHeartbeats 2000000 in
/-- Of. -/
theorem of_any (c : ByteArray) (w : World) (p b : Nat) (m : List Ln) (h : IsStock w p b m) :
    Calls Tryz.prog 23 #[.pointer (some ⟨p, 0, none⟩), .string c] w fun e w' => e = .returned (.int .i64 (ofL m c)) ∧ Below w.heap.size w w' := by
  have hc := h.cell
  have hm := h.map
  have hlt := h.lt
  have HW : Hid (Wf m) := h.wf
  clear h
  go_enter Tryz.func23, Tryz.ntmps23
  go_wp2_with (at_range; refine wpL_range rfl _ 96 rfl 104 3 Tryz.underlying96 b (m.map entN) rfl hm ?_; intro w0 hrg0 hg0 hs0)
  go_frame
  have hb0 : Below w.heap.size w w0 := ⟨hg0.os, hg0.tape, hg0.output, hg0.size, fun k hk => hg0.block k hk (by simp)⟩
  clear hg0 hs0 hm
  go_loopw [5] (fun s wr => ∃ d t : List Ln, (d ++ t).Perm m ∧ s = .int .i64 (ofL d c) ∧ RangeL Tryz.prog 104 wr b w.heap.size (m.map entN) (t.map entN) ∧ Below w.heap.size w wr) (fun _ wr => wr.rangeLeft b w.heap.size)
  case atStart => exact ⟨[], m, List.Perm.refl _, rfl, hrg0, hb0⟩
  case round =>
    obtain ⟨d, t, hp, rfl, hrg, hb⟩ := hrel
    go_wp2_with (at_next; refine wpK_next rfl _ rfl b w.heap.size _ t rfl hrg ?_ ?_)
    · intro ht
      subst ht
      have e : ofL d c = ofL m c := by rw [← ofL_perm hp]; simp
      go_wp2
      go_ret
      exact ⟨by rw [← e]; rfl, hb⟩
    · intro za zr zb zc zn t' w1 hp1 hrg1 hg1 hs1 hen
      have hb1 := grown_below hb (Nat.le_refl _) hg1
      obtain ⟨q1, q2, q3, q4, q5, q6⟩ := of_step c HW.out hp hp1
      have HP : Hid (((d ++ [((za, zr, zb), zc, zn)]) ++ t').Perm m) := q5
      have HQ : Hid (ofL (d ++ [((za, zr, zb), zc, zn)]) c = _) := q6
      have HM : Hid (wr.rangeLeft b w.heap.size = w1.rangeLeft b w.heap.size + 1) := by
        show _ = _
        rw [hrg.left_eq, hrg1.left_eq]
        have := hp1.length_eq
        simpa using this
      have hrg2 := fun o => hrg1.kept (World.grownBy_alloc w1 o none) (by simp) (by simp)
      have hl1 := fun o => ((hrg2 o).left_eq).trans hrg1.left_eq.symm
      clear q5 q6 hp hp1 hrg hrg1 hg1 hb
      simp only at q2 q3 q4
      by_cases hz : zc = c
      · subst hz
        rw [if_pos rfl] at q2
        go_wp2
        go_roundw
        case rel => exact ⟨_, t', HP.out, by rw [HQ.out, if_pos rfl], hrg2 _, hb1.alloc hb1.size _⟩
        case measure => show World.rangeLeft _ _ _ < _; rw [HM.out, hl1]; exact Nat.lt_succ_self _
      · have e3 := same_eq zc c
        rw [decide_eq_false hz] at e3
        go_wp2
        go_roundw
        case rel => exact ⟨_, t', HP.out, by rw [HQ.out, if_neg hz, Int.add_zero], hrg2 _, hb1.alloc hb1.size _⟩
        case measure => show World.rangeLeft _ _ _ < _; rw [HM.out, hl1]; exact Nat.lt_succ_self _
end Go.Proofs.YtcipbkaopnaiiabGreatDoor
