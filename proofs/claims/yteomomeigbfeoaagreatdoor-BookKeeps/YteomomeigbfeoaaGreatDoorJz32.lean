/-
 maps.Equal at sums: true just if both maps have the same entries, in whatever order; nothing old is turned.
-/
import Derived.Test.YteomomeigbfeoaaGreatDoorJz31
import Derived.Laws.StructEq
import Derived.Test.YteomomeigbfeoaaGreatDoorJz14
import Derived.Lib.QuietBelow
import Derived.BigQuiet
set_option maxRecDepth 100000
set_option maxHeartbeats 16000000
namespace Go.Proofs.YteomomeigbfeoaaGreatDoor
open Go.RowKit Go.Lib Go.Sort
abbrev entUo : (ByteArray × Su) → Ent := entO (fun g : (ByteArray × Su) => g.1) (fun g : (ByteArray × Su) => Value.agg #[(Value.int .i64 g.2.1), (Value.int .i64 g.2.2.1), (Value.int .i64 g.2.2.2.1), (Value.int .i64 g.2.2.2.2)])
section
variable {w : World} {ops : Array Oper} {rest : List Oper} {o : Oper} {a : Act} {Q : Exit → Act → World → Prop}
theorem wpUo_next (hg : o.guard = none) (it : Operand) (hop : o.op = Op.next it false) (b r : Nat) (L : List Ent) (t : List (ByteArray × Su)) (hit : a.eval it = .pointer (some ⟨r, 0, none⟩)) (h : RangeL Tryz.prog 9 w b r L (t.map entUo))
  (hDone : t = [] → wpList Tryz.prog ops Q rest (a.put o.dst (.tuple #[.bool false])) w)
  (hMore : ∀ (xk : ByteArray) (xi : Int) (xo : Int) (xm : Int) (xl : Int) t' w', t.Perm ((xk, xi, xo, xm, xl) :: t') → RangeL Tryz.prog 9 w' b r L (t'.map entUo) → w.grownBy w' (some r) → w'.heap.size = w.heap.size → (Instr.entry (.pointer (some ⟨r, 0, none⟩))).run Tryz.prog w' = .ok (.tuple #[.string xk, .agg #[.int .i64 xi, .int .i64 xo, .int .i64 xm, .int .i64 xl]]) w' →
   wpList Tryz.prog ops Q rest (a.put o.dst (.tuple #[.bool true, .string xk, .agg #[.int .i64 xi, .int .i64 xo, .int .i64 xm, .int .i64 xl]])) w') : wpList Tryz.prog ops Q (o :: rest) a w :=
 wpO_next (fun g : (ByteArray × Su) => g.1) (fun g : (ByteArray × Su) => Value.agg #[(Value.int .i64 g.2.1), (Value.int .i64 g.2.2.1), (Value.int .i64 g.2.2.2.1), (Value.int .i64 g.2.2.2.2)]) hg it hop b r L t hit h hDone fun ⟨xk, xi, xo, xm, xl⟩ t' w' h1 h2 h3 h4 h5 => hMore xk xi xo xm xl t' w' h1 h2 h3 h4 h5
end
theorem askUo_hit {W : World} {b : Nat} {m : List (ByteArray × Su)} (h : MapL Tryz.prog 9 W b (m.map entUo)) {c : ByteArray} {kl : Lit} (hk : keyOf Tryz.prog 9 (.string c) = some kl) {yk : ByteArray} {yi : Int} {yo : Int} {ym : Int} {yl : Int} (hy : findN (fun g : (ByteArray × Su) => g.1) m c = some (yk, yi, yo, ym, yl)) : (Instr.lookup 92 (.map (some b)) (.string c) true).run Tryz.prog W = .ok (.tuple #[.agg #[.int .i64 yi, .int .i64 yo, .int .i64 ym, .int .i64 yl], .bool true]) W :=
 askO_hit (v := (fun g : (ByteArray × Su) => Value.agg #[(Value.int .i64 g.2.1), (Value.int .i64 g.2.2.1), (Value.int .i64 g.2.2.2.1), (Value.int .i64 g.2.2.2.2)])) Tryz.keyedS Tryz.underlying92 h hk hy
theorem askUo_miss {W : World} {b : Nat} {m : List (ByteArray × Su)} (h : MapL Tryz.prog 9 W b (m.map entUo)) {c : ByteArray} {kl : Lit} (hk : keyOf Tryz.prog 9 (.string c) = some kl) (hy : findN (fun g : (ByteArray × Su) => g.1) m c = none) : (Instr.lookup 92 (.map (some b)) (.string c) true).run Tryz.prog W = .ok (.tuple #[.agg #[.int .i64 0, .int .i64 0, .int .i64 0, .int .i64 0], .bool false]) W :=
 askO_miss (v := (fun g : (ByteArray × Su) => Value.agg #[(Value.int .i64 g.2.1), (Value.int .i64 g.2.2.1), (Value.int .i64 g.2.2.2.1), (Value.int .i64 g.2.2.2.2)])) Tryz.keyedS Tryz.underlying92 h hk (Tryz.zeroValue46 W) hy
theorem equalU_any (w : World) (b1 b2 : Nat) (m1 m2 : List (ByteArray × Su)) (h1 : MapL Tryz.prog 9 w b1 (m1.map entUo)) (h2 : MapL Tryz.prog 9 w b2 (m2.map entUo)) (s1 : m1.length ≤ 1000) (s2 : m2.length ≤ 1000) :
  Calls Tryz.prog 52 #[.map (some b1), .map (some b2)] w fun e w' => ∃ r, e = .returned (.bool r) ∧ (r = true ↔ m1.Perm m2) ∧ Below w.heap.size w w' := by
 have HN1 : Hid ((m1.map (fun g : (ByteArray × Su) => g.1)).Nodup) := names_nodup h1
 have HN2 : Hid ((m2.map (fun g : (ByteArray × Su) => g.1)).Nodup) := names_nodup h2
 have HK : Hid (∀ (xk : ByteArray) (xi : Int) (xo : Int) (xm : Int) (xl : Int), (xk, xi, xo, xm, xl) ∈ m1 → ∃ kl, keyOf Tryz.prog 9 (.string xk) = some kl) := fun xk xi xo xm xl hx => h1.keys _ (List.mem_map.2 ⟨_, hx, rfl⟩)
 have H2 : Hid (∀ W, Below w.heap.size w W → MapL Tryz.prog 9 W b2 (m2.map entUo)) := fun W hb => h2.below hb h2.lt
 obtain ⟨l1, hl1⟩ : ∃ l1, (m1.map entUo).length = l1 := ⟨_, rfl⟩
 obtain ⟨l2, hl2⟩ : ∃ l2, (m2.map entUo).length = l2 := ⟨_, rfl⟩
 have q1 : m1.length = l1 := by rw [← hl1]; simp
 have q2 : m2.length = l2 := by rw [← hl2]; simp
 have t1 : l1 ≤ 1000 := by omega
 have t2 : l2 ≤ 1000 := by omega
 clear s1 s2
 go_enter Tryz.func52, Tryz.ntmps52
 by_cases hll : l1 = l2
 ·have HLe : Hid (m1.length = m2.length) := by show _ = _; omega
  subst hll
  clear q1 q2
  go_wp2_with (first
   | (at_len; refine wpL_len rfl _ 92 rfl 9 46 Tryz.underlying92 b1 _ l1 hl1 rfl h1 ?_)
   | (at_len; refine wpL_len rfl _ 92 rfl 9 46 Tryz.underlying92 b2 _ l1 hl2 rfl h2 ?_)
   | (at_range; refine wpL_range rfl _ 92 rfl 9 46 Tryz.underlying92 b1 (m1.map entUo) rfl h1 ?_; intro w0 hrg0 hg0 hs0))
  go_frame
  have hb0 : Below w.heap.size w w0 := ⟨hg0.os, hg0.tape, hg0.output, hg0.size, fun k hk => hg0.block k hk (by simp)⟩
  clear hg0 hs0 h1 h2 hl1 hl2 t1 t2
  go_loopw [] (fun wr => ∃ d t : List (ByteArray × Su), EqS (fun g : (ByteArray × Su) => g.1) m1 m2 d t ∧ RangeL Tryz.prog 9 wr b1 w.heap.size (m1.map entUo) (t.map entUo) ∧ Below w.heap.size w wr) (fun wr => wr.rangeLeft b1 w.heap.size)
  case atStart => exact ⟨[], m1, EqS.start _ _, hrg0, hb0⟩
  case round =>
   obtain ⟨d, t, hE, hrg, hb⟩ := hrel
   have HE : Hid (EqS _ _ _ _ _) := hE
   go_wp2_with (at_next; refine wpUo_next rfl _ rfl b1 w.heap.size _ t rfl hrg ?_ ?_)
   ·intro ht
    subst ht
    go_wp2
    go_ret
    exact ⟨true, rfl, ⟨fun _ => HE.out.done HN1.out HLe.out, fun _ => rfl⟩, hb⟩
   ·intro xk xi xo xm xl t' w1 hp1 hrg1 hg1 hs1 hen
    have hb1 := grown_below hb (Nat.le_refl _) hg1
    have HP : Hid (t.Perm ((xk, xi, xo, xm, xl) :: t')) := hp1
    have HM : Hid (wr.rangeLeft b1 w.heap.size = w1.rangeLeft b1 w.heap.size + 1) := by
     show _ = _
     rw [hrg.left_eq, hrg1.left_eq]
     have := hp1.length_eq
     simpa using this
    obtain ⟨kl, hkl⟩ := HK.out xk xi xo xm xl (hE.perm.mem_iff.1 (List.mem_append.2 (Or.inr (hp1.mem_iff.2 (List.mem_cons_self ..)))))
    have hbN := hb1.alloc hb1.size (.cells #[.int .i64 xi, .int .i64 xo, .int .i64 xm, .int .i64 xl] 46)
    have hbM : Below w1.heap.size w1 (w1.alloc (.cells #[.int .i64 xi, .int .i64 xo, .int .i64 xm, .int .i64 xl] 46)) := (Below.refl _ w1).alloc (Nat.le_refl _) _
    have nN := heap_alloc_new w1 (.cells #[.int .i64 xi, .int .i64 xo, .int .i64 xm, .int .i64 xl] 46)
    obtain ⟨W2, hW2⟩ : ∃ W2, w1.alloc (.cells #[.int .i64 xi, .int .i64 xo, .int .i64 xm, .int .i64 xl] 46) = W2 := ⟨_, rfl⟩
    rw [hW2] at hbN nN hbM
    have hrg2 : RangeL Tryz.prog 9 W2 b1 w.heap.size (m1.map entUo) (t'.map entUo) := hrg1.below hbM hrg1.map.lt hrg1.lt
    have HL2 : Hid (W2.rangeLeft b1 w.heap.size = w1.rangeLeft b1 w.heap.size) := hrg2.left_eq.trans hrg1.left_eq.symm
    cases hfi : findN (fun g : (ByteArray × Su) => g.1) m2 xk with
    | none =>
     obtain ⟨V1, V2, V3, V4, V5, e1, e2, e3, e4, e5, ⟨k1, k2, k3, k4, k5⟩, ⟨k6, k7⟩, ⟨k8, k9⟩, ⟨k10, k11⟩, n5, kb1, kb5⟩ := boxed4 W2 (.int .i64 0) (.int .i64 0) (.int .i64 0) (.int .i64 0) (.int .i64 0) (.int .i64 0) (.int .i64 0) (.int .i64 0) 46
     have hl := askUo_miss (H2.out W2 hbN) hkl hfi
     have HB5 : Hid (Below w.heap.size w V5) := hbN.trans (kb5.mono hbN.size)
     clear hE hp1 hrg hrg1 hg1 hb hb1 hbN hbM nN hrg2 hs1 hkl n5 kb5
     go_wp2_with (at_lookup; refine wpL_ask rfl _ _ 92 rfl b2 _ _ rfl rfl hl ?_)
     go_ret
     exact ⟨false, rfl, ⟨fun e9 => (by cases e9), fun e9 => absurd e9 (HE.out.miss HP.out hfi)⟩, HB5.out⟩
    | some y =>
     obtain ⟨yk, yi, yo, ym, yl⟩ := y
     have kb5 : Below W2.heap.size W2 (W2.alloc (.cells #[.int .i64 yi, .int .i64 yo, .int .i64 ym, .int .i64 yl] 46)) := (Below.refl _ W2).alloc (Nat.le_refl _) _
     have n5 := heap_alloc_new W2 (.cells #[.int .i64 yi, .int .i64 yo, .int .i64 ym, .int .i64 yl] 46)
     obtain ⟨V5, hV5⟩ : ∃ V5, W2.alloc (.cells #[.int .i64 yi, .int .i64 yo, .int .i64 ym, .int .i64 yl] 46) = V5 := ⟨_, rfl⟩
     rw [hV5] at kb5 n5
     have hl := askUo_hit (H2.out W2 hbN) hkl hfi
     have n9 := (kb5.block _ (Array.getElem?_eq_some_iff.1 nN).1).trans nN
     have c0 : V5.cell? ⟨w1.heap.size, 0, none⟩ = some (.int .i64 xi) := by rw [cell_of_heap n9]; rfl
     have c1 : V5.cell? ⟨w1.heap.size, 1, none⟩ = some (.int .i64 xo) := by rw [cell_of_heap n9]; rfl
     have c2 : V5.cell? ⟨w1.heap.size, 2, none⟩ = some (.int .i64 xm) := by rw [cell_of_heap n9]; rfl
     have c3 : V5.cell? ⟨w1.heap.size, 3, none⟩ = some (.int .i64 xl) := by rw [cell_of_heap n9]; rfl
     have d0 : V5.cell? ⟨W2.heap.size, 0, none⟩ = some (.int .i64 yi) := by rw [cell_of_heap n5]; rfl
     have d1 : V5.cell? ⟨W2.heap.size, 1, none⟩ = some (.int .i64 yo) := by rw [cell_of_heap n5]; rfl
     have d2 : V5.cell? ⟨W2.heap.size, 2, none⟩ = some (.int .i64 ym) := by rw [cell_of_heap n5]; rfl
     have d3 : V5.cell? ⟨W2.heap.size, 3, none⟩ = some (.int .i64 yl) := by rw [cell_of_heap n5]; rfl
     have HB5 : Hid (Below w.heap.size w V5) := hbN.trans (kb5.mono hbN.size)
     have HR5 : Hid (RangeL Tryz.prog 9 V5 b1 w.heap.size (m1.map entUo) (t'.map entUo)) := hrg2.below kb5 hrg2.map.lt hrg2.lt
     have HLL : Hid (V5.rangeLeft b1 w.heap.size = W2.rangeLeft b1 w.heap.size) := HR5.out.left_eq.trans hrg2.left_eq.symm
     have hq := fun W => eqU_run (xi, xo, xm, xl) (yi, yo, ym, yl) W
     have hgd := Tryz.guardU
     clear hE hp1 hrg hrg1 hg1 hb hb1 hbN hbM nN hrg2 hs1 hkl n5 n9 kb5
     simp only at hq
     by_cases hxy : (xi, xo, xm, xl) = (yi, yo, ym, yl)
     ·have hdec : decide ((xi, xo, xm, xl) = (yi, yo, ym, yl)) = true := decide_eq_true hxy
      rw [hdec] at hq
      have HS : Hid (EqS _ m1 m2 (d ++ [(xk, xi, xo, xm, xl)]) t') := HE.out.step HP.out (by rw [hfi]; exact congrArg some (by have hk : yk = xk := (findN_mem hfi).2; rw [hk, hxy] : ((xk, xi, xo, xm, xl) : ByteArray × Su) = (yk, yi, yo, ym, yl)).symm)
      clear hdec
      go_wp2_with (at_lookup; refine wpL_ask rfl _ _ 92 rfl b2 _ _ rfl rfl hl ?_)
      go_roundw
      case rel => exact ⟨_, t', HS.out, HR5.out, HB5.out⟩
      case measure => show World.rangeLeft _ _ _ < _; rw [HM.out, ← HL2.out, HLL.out]; exact Nat.lt_succ_self _
     ·have hdec : decide ((xi, xo, xm, xl) = (yi, yo, ym, yl)) = false := decide_eq_false hxy
      rw [hdec] at hq
      clear hdec
      go_wp2_with (at_lookup; refine wpL_ask rfl _ _ 92 rfl b2 _ _ rfl rfl hl ?_)
      go_ret
      exact ⟨false, rfl, ⟨fun e9 => (by cases e9), fun e9 => absurd e9 (HE.out.other HP.out HN2.out hfi (fun e9 => hxy (congrArg Prod.snd e9)))⟩, HB5.out⟩
 ·have HLe : Hid (¬ m1.Perm m2) := fun e9 => hll (by have := e9.length_eq; omega)
  have hll' : (l1 : Int) ≠ (l2 : Int) := by omega
  clear q1 q2
  go_wp2_with (first
   | (at_len; refine wpL_len rfl _ 92 rfl 9 46 Tryz.underlying92 b1 _ l1 hl1 rfl h1 ?_)
   | (at_len; refine wpL_len rfl _ 92 rfl 9 46 Tryz.underlying92 b2 _ l2 hl2 rfl h2 ?_))
  go_ret
  exact ⟨false, rfl, ⟨fun e9 => (by cases e9), fun e9 => absurd e9 HLe.out⟩, Below.refl _ _⟩
end Go.Proofs.YteomomeigbfeoaaGreatDoor
namespace Go.Proofs.YteomomeigbfeoaaGreatDoor
open Go.RowKit Go.Lib Go.Sort
theorem entG_map (b : Bk) : b.1.map entG = (gdsB b).map entGo := by unfold gdsB; rw [List.map_map]; rfl
theorem entU_map (b : Bk) : b.1.map entU = (susB b).map entUo := by unfold susB; rw [List.map_map]; rfl
theorem entL_map (b : Bk) : b.2.1.map entL = (losB b).map entQo := by unfold losB; rw [List.map_map]; rfl
theorem entH_map (b : Bk) : b.2.1.map entH = (hesB b).map entHo := by unfold hesB; rw [List.map_map]; rfl
theorem is_dec (p : Prop) : ∃ r : Bool, r = true ↔ p := by
 rcases Classical.em p with h | h
 ·exact ⟨true, by simp [h]⟩
 ·exact ⟨false, by simp [h]⟩
theorem same_as {r r' : Bool} {p : Prop} (h : r = true ↔ p) (h' : r' = true ↔ p) : r = r' := by
 cases r <;> cases r' <;> simp_all
structure SameW (w : World) (x y : Bl) (b b' : Bk) (px py : Nat) (r1 r2 r3 r4 r5 : Bool) : Prop where
 cx : ∀ W, Below w.heap.size w W → (W.cell? ⟨x.p, 0, none⟩ = some (.map (some x.g)) ∧ W.cell? ⟨x.p, 1, none⟩ = some (.map (some x.u)) ∧ W.cell? ⟨x.p, 2, none⟩ = some (.map (some x.l)) ∧ W.cell? ⟨x.p, 3, none⟩ = some (.map (some x.h)) ∧ W.cell? ⟨x.p, 4, none⟩ = some (.pointer (some ⟨px, 0, none⟩)))
 cy : ∀ W, Below w.heap.size w W → (W.cell? ⟨y.p, 0, none⟩ = some (.map (some y.g)) ∧ W.cell? ⟨y.p, 1, none⟩ = some (.map (some y.u)) ∧ W.cell? ⟨y.p, 2, none⟩ = some (.map (some y.l)) ∧ W.cell? ⟨y.p, 3, none⟩ = some (.map (some y.h)) ∧ W.cell? ⟨y.p, 4, none⟩ = some (.pointer (some ⟨py, 0, none⟩)))
 G : ∀ W, Below w.heap.size w W → Calls Tryz.prog 51 #[.map (some x.g), .map (some y.g)] W fun e w' => e = .returned (.bool r1) ∧ Below W.heap.size W w'
 U : ∀ W, Below w.heap.size w W → Calls Tryz.prog 52 #[.map (some x.u), .map (some y.u)] W fun e w' => e = .returned (.bool r2) ∧ Below W.heap.size W w'
 Q : ∀ W, Below w.heap.size w W → Calls Tryz.prog 53 #[.map (some x.l), .map (some y.l)] W fun e w' => e = .returned (.bool r3) ∧ Below W.heap.size W w'
 H : ∀ W, Below w.heap.size w W → Calls Tryz.prog 54 #[.map (some x.h), .map (some y.h)] W fun e w' => e = .returned (.bool r4) ∧ Below W.heap.size W w'
 lx : ∀ W, Below w.heap.size w W → Calls Tryz.prog 31 #[.pointer (some ⟨px, 0, none⟩)] W fun e w' => ∃ g c, e = .returned (.slice (some ⟨g, 0, none⟩) b.2.2.length c) ∧ RowN w' g b.2.2 ∧ Below W.heap.size W w'
 ly : ∀ W, Below w.heap.size w W → Calls Tryz.prog 31 #[.pointer (some ⟨py, 0, none⟩)] W fun e w' => ∃ g c, e = .returned (.slice (some ⟨g, 0, none⟩) b'.2.2.length c) ∧ RowN w' g b'.2.2 ∧ Below W.heap.size W w'
 N : ∀ W g g' c c', RowN W g b.2.2 → RowN W g' b'.2.2 → Calls Tryz.prog 55 #[.slice (some ⟨g, 0, none⟩) b.2.2.length c, .slice (some ⟨g', 0, none⟩) b'.2.2.length c'] W fun e w' => e = .returned (.bool r5) ∧ Below W.heap.size W w'
 wx : Calls Tryz.prog 41 #[.pointer (some ⟨x.p, 0, none⟩)] w fun e w' => e = .returned (.pointer (some ⟨x.p, 0, none⟩)) ∧ w' = w
 wy : Calls Tryz.prog 41 #[.pointer (some ⟨y.p, 0, none⟩)] w fun e w' => e = .returned (.pointer (some ⟨y.p, 0, none⟩)) ∧ w' = w
theorem SameW.of {w : World} {B1 B2 : Nat} {x y : Bl} {b b' : Bk} (h1 : IsBk w B1 x b) (h2 : IsBk w B2 y b') : ∃ px py r1 r2 r3 r4 r5, SameW w x y b b' px py r1 r2 r3 r4 r5 ∧ ((((r1 = true ∧ r2 = true) ∧ r3 = true) ∧ r4 = true) ∧ r5 = true ↔ b = b') := by
 have hwx := whole_any w B1 x b h1
 have hwy := whole_any w B2 y b' h2
 obtain ⟨px, qx, h1⟩ := h1
 obtain ⟨py, qy, h2⟩ := h2
 obtain ⟨r1, e1⟩ := is_dec ((gdsB b).Perm (gdsB b'))
 obtain ⟨r2, e2⟩ := is_dec ((susB b).Perm (susB b'))
 obtain ⟨r3, e3⟩ := is_dec ((losB b).Perm (losB b'))
 obtain ⟨r4, e4⟩ := is_dec ((hesB b).Perm (hesB b'))
 obtain ⟨r5, e5⟩ := is_dec (b.2.2 = b'.2.2)
 have k1 := h1.ok.wf.gl
 have k2 := h2.ok.wf.gl
 have k3 := h1.ok.wf.ll
 have k4 := h2.ok.wf.ll
 have k5 := h1.ok.wf.st.len
 have k6 := h2.ok.wf.st.len
 refine ⟨px, py, r1, r2, r3, r4, r5, { cx := ?_, cy := ?_, G := ?_, U := ?_, Q := ?_, H := ?_, lx := ?_, ly := ?_, N := ?_, wx := hwx, wy := hwy }, ?_⟩
 ·intro W hb
  obtain ⟨p0, p1, p2, p3, p4, _⟩ := (h1.all hb).cells
  exact ⟨p0, p1, p2, p3, p4⟩
 ·intro W hb
  obtain ⟨p0, p1, p2, p3, p4, _⟩ := (h2.all hb).cells
  exact ⟨p0, p1, p2, p3, p4⟩
 ·intro W hb
  refine (equalG_any W x.g y.g (gdsB b) (gdsB b') (by rw [← entG_map]; exact (h1.all hb).G) (by rw [← entG_map]; exact (h2.all hb).G) (by unfold gdsB; rw [List.length_map]; omega) (by unfold gdsB; rw [List.length_map]; omega)).mono ?_
  rintro e w' ⟨r, rfl, hr, hb'⟩
  exact ⟨by rw [same_as hr e1], hb'⟩
 ·intro W hb
  refine (equalU_any W x.u y.u (susB b) (susB b') (by rw [← entU_map]; exact (h1.all hb).U) (by rw [← entU_map]; exact (h2.all hb).U) (by unfold susB; rw [List.length_map]; omega) (by unfold susB; rw [List.length_map]; omega)).mono ?_
  rintro e w' ⟨r, rfl, hr, hb'⟩
  exact ⟨by rw [same_as hr e2], hb'⟩
 ·intro W hb
  refine (equalQ_any W x.l y.l (losB b) (losB b') (by rw [← entL_map]; exact (h1.all hb).L) (by rw [← entL_map]; exact (h2.all hb).L) (by unfold losB; rw [List.length_map]; omega) (by unfold losB; rw [List.length_map]; omega)).mono ?_
  rintro e w' ⟨r, rfl, hr, hb'⟩
  exact ⟨by rw [same_as hr e3], hb'⟩
 ·intro W hb
  refine (equalH_any W x.h y.h (hesB b) (hesB b') (by rw [← entH_map]; exact (h1.all hb).H) (by rw [← entH_map]; exact (h2.all hb).H) (by unfold hesB; rw [List.length_map]; omega) (by unfold hesB; rw [List.length_map]; omega)).mono ?_
  rintro e w' ⟨r, rfl, hr, hb'⟩
  exact ⟨by rw [same_as hr e4], hb'⟩
 ·intro W hb
  refine (lines_any W px qx b.2.2 (h1.all hb).S).mono ?_
  rintro e w' ⟨g, c, rfl, _, hr, hb'⟩
  exact ⟨g, c, rfl, hr, hb'⟩
 ·intro W hb
  refine (lines_any W py qy b'.2.2 (h2.all hb).S).mono ?_
  rintro e w' ⟨g, c, rfl, _, hr, hb'⟩
  exact ⟨g, c, rfl, hr, hb'⟩
 ·intro W g g' c c' hg hg'
  refine (equalN_any W g g' c c' b.2.2 b'.2.2 hg hg' (by omega) (by omega)).mono ?_
  rintro e w' ⟨r, rfl, hr, hb'⟩
  exact ⟨by rw [same_as hr e5], hb'⟩
 ·rw [e1, e2, e3, e4, e5]
  exact bk_same h1.ok h2.ok
theorem same_yes (w : World) (x y : Bl) (b b' : Bk) (px py : Nat) (r5 : Bool) (h : SameW w x y b b' px py true true true true r5) :
  Calls Tryz.prog 14 #[.pointer (some ⟨x.p, 0, none⟩), .pointer (some ⟨y.p, 0, none⟩)] w fun e w' => e = .returned (.bool r5) ∧ Below w.heap.size w w' := by
 have HW : Hid (SameW _ _ _ _ _ _ _ _ _ _ _ _) := h
 have HX : Hid (Calls Tryz.prog 41 _ _ _) := h.wx
 have HY : Hid (Calls Tryz.prog 41 _ _ _) := h.wy
 have HB0 : Hid (Below w.heap.size w w.drew) := (Below.refl _ w).drew
 obtain ⟨p0, p1, p2, p3, p4⟩ := h.cx w (Below.refl _ _)
 obtain ⟨q0, q1, q2, q3, q4⟩ := h.cy w (Below.refl _ _)
 clear h
 generalize b.2.2.length = lb at *
 generalize b'.2.2.length = lb' at *
 go_enter Tryz.func14, Tryz.ntmps14
 go_wp2_with (first
  | (go_at_call 41; refine HX.out.mono ?_; clear HX; rintro e w1 ⟨rfl, hw⟩; have hw' := hw.symm; subst hw')
  | (go_at_call 41; refine HY.out.mono ?_; rintro e w1 ⟨rfl, hw⟩; have hw' := hw.symm; subst hw'))
 go_region_held3 (fun w' => (w'.cell? ⟨x.p, 0, none⟩ = some (.map (some x.g)) ∧ w'.cell? ⟨x.p, 1, none⟩ = some (.map (some x.u)) ∧ w'.cell? ⟨x.p, 2, none⟩ = some (.map (some x.l)) ∧ w'.cell? ⟨x.p, 3, none⟩ = some (.map (some x.h)) ∧ w'.cell? ⟨x.p, 4, none⟩ = some (.pointer (some ⟨px, 0, none⟩))) ∧ (w'.cell? ⟨y.p, 0, none⟩ = some (.map (some y.g)) ∧ w'.cell? ⟨y.p, 1, none⟩ = some (.map (some y.u)) ∧ w'.cell? ⟨y.p, 2, none⟩ = some (.map (some y.l)) ∧ w'.cell? ⟨y.p, 3, none⟩ = some (.map (some y.h)) ∧ w'.cell? ⟨y.p, 4, none⟩ = some (.pointer (some ⟨py, 0, none⟩)))) (go_keep) (first
  | (go_at_call 51; refine (HW.out.G _ HB0.out).mono ?_; rintro e w2 ⟨rfl, hb⟩; have K1 : Hid (Below w.heap.size w w2) := HB0.out.trans (hb.mono HB0.out.size); obtain ⟨a0, a1, a2, a3, a4⟩ := HW.out.cx _ K1.out; obtain ⟨b0, b1, b2, b3, b4⟩ := HW.out.cy _ K1.out; clear hb)
  | (go_at_call 52; refine (HW.out.U _ K1.out).mono ?_; rintro e w3 ⟨rfl, hb⟩; have K2 : Hid (Below w.heap.size w w3) := K1.out.trans (hb.mono K1.out.size); obtain ⟨c0, c1, c2, c3, c4⟩ := HW.out.cx _ K2.out; obtain ⟨d0, d1, d2, d3, d4⟩ := HW.out.cy _ K2.out; clear hb)
  | (go_at_call 53; refine (HW.out.Q _ K2.out).mono ?_; rintro e w4 ⟨rfl, hb⟩; have K3 : Hid (Below w.heap.size w w4) := K2.out.trans (hb.mono K2.out.size); obtain ⟨e0, e1, e2, e3, e4⟩ := HW.out.cx _ K3.out; obtain ⟨f0, f1, f2, f3, f4⟩ := HW.out.cy _ K3.out; clear hb)
  | (go_at_call 54; refine (HW.out.H _ K3.out).mono ?_; rintro e w5 ⟨rfl, hb⟩; have K4 : Hid (Below w.heap.size w w5) := K3.out.trans (hb.mono K3.out.size); obtain ⟨g0, g1, g2, g3, g4⟩ := HW.out.cx _ K4.out; obtain ⟨h0, h1, h2, h3, h4⟩ := HW.out.cy _ K4.out; have HL : Hid (Calls Tryz.prog 31 _ w5 _) := HW.out.lx _ K4.out; clear hb)
  | (go_at_call 31; refine HL.out.mono ?_; clear HL; rintro e w6 ⟨gx, kx, rfl, hr, hb⟩; have K5 : Hid (Below w.heap.size w w6) := K4.out.trans (hb.mono K4.out.size); have R5 : Hid (RowN w6 gx b.2.2) := hr; obtain ⟨i0, i1, i2, i3, i4⟩ := HW.out.cx _ K5.out; obtain ⟨j0, j1, j2, j3, j4⟩ := HW.out.cy _ K5.out; clear hb hr)
  | (go_at_call 31; refine (HW.out.ly _ K5.out).mono ?_; rintro e w7 ⟨gy, ky, rfl, hr, hb⟩; have K6 : Hid (Below w.heap.size w w7) := K5.out.trans (hb.mono K5.out.size); have R6 : Hid (RowN w7 gx b.2.2) := R5.out.below hb; have R7 : Hid (RowN w7 gy b'.2.2) := hr; obtain ⟨l0, l1, l2, l3, l4⟩ := HW.out.cx _ K6.out; obtain ⟨m0, m1, m2, m3, m4⟩ := HW.out.cy _ K6.out; clear hb hr)
  | (go_at_call 55; refine (HW.out.N _ _ _ _ _ R6.out R7.out).mono ?_; rintro e w8 ⟨rfl, hb⟩; have K7 : Hid (Below w.heap.size w w8) := K6.out.trans (hb.mono K6.out.size); obtain ⟨n0, n1, n2, n3, n4⟩ := HW.out.cx _ K7.out; obtain ⟨o0, o1, o2, o3, o4⟩ := HW.out.cy _ K7.out; clear hb))
 go_wp2
 go_ret
 exact ⟨rfl, K7.out⟩
theorem same_no (w : World) (x y : Bl) (b b' : Bk) (px py : Nat) (r1 r2 r3 r4 r5 : Bool) (h : SameW w x y b b' px py r1 r2 r3 r4 r5) (hr : r1 = false ∨ r1 = true ∧ (r2 = false ∨ r2 = true ∧ (r3 = false ∨ r3 = true ∧ r4 = false))) :
  Calls Tryz.prog 14 #[.pointer (some ⟨x.p, 0, none⟩), .pointer (some ⟨y.p, 0, none⟩)] w fun e w' => e = .returned (.bool false) ∧ Below w.heap.size w w' := by
 have HX : Hid (Calls Tryz.prog 41 _ _ _) := h.wx
 have HY : Hid (Calls Tryz.prog 41 _ _ _) := h.wy
 obtain ⟨p0, p1, p2, p3, p4⟩ := h.cx w (Below.refl _ _)
 obtain ⟨q0, q1, q2, q3, q4⟩ := h.cy w (Below.refl _ _)
 have i0 := cell_regrown p0
 have i1 := cell_regrown p1
 have i2 := cell_regrown p2
 have i3 := cell_regrown p3
 have j0 := cell_regrown q0
 have j1 := cell_regrown q1
 have j2 := cell_regrown q2
 have j3 := cell_regrown q3
 have hbR : ∀ d os, Below w.heap.size w (grow (redrawn w d) os) := fun d os => below_regrown w d os
 have cG := fun d os => Calls.regrown_of (w := w) (d := d) (os := os) (h.G _ (hbR d os))
 have cU := fun d os => Calls.regrown_of (w := w) (d := d) (os := os) (h.U _ (hbR d os))
 have cQ := fun d os => Calls.regrown_of (w := w) (d := d) (os := os) (h.Q _ (hbR d os))
 have cH := fun d os => Calls.regrown_of (w := w) (d := d) (os := os) (h.H _ (hbR d os))
 clear h
 go_enter Tryz.func14, Tryz.ntmps14
 go_wp2_with (first
  | (go_at_call 41; refine HX.out.mono ?_; clear HX; rintro e w1 ⟨rfl, hw⟩; have hw' := hw.symm; subst hw')
  | (go_at_call 41; refine HY.out.mono ?_; rintro e w1 ⟨rfl, hw⟩; have hw' := hw.symm; subst hw'))
 rcases hr with rfl | ⟨rfl, rfl | ⟨rfl, rfl | ⟨rfl, rfl⟩⟩⟩
 all_goals
  refine wp_region_quiet_below (by kernel_rfl) (by kernel_rfl) ?_
  repeat (first | go_big_quiet_skip | quiet_step (first
   | (go_at_call 51; exact cG _ _)
   | (go_at_call 52; exact cU _ _)
   | (go_at_call 53; exact cQ _ _)
   | (go_at_call 54; exact cH _ _)))
  refine wpQuiet_nil ?_
  intro _ hw'
  obtain ⟨⟨dq, osq⟩, hw''⟩ := hw'
  subst hw''
  have hbE := below_regrown w dq osq
  generalize grow (redrawn w dq) osq = W2 at *
  go_wp2
  go_ret
  exact ⟨rfl, hbE⟩
theorem same_any (w : World) (B1 B2 : Nat) (x y : Bl) (b b' : Bk) (h1 : IsBk w B1 x b) (h2 : IsBk w B2 y b') (r : Bool) (hr : r = true ↔ b = b') :
  Calls Tryz.prog 14 #[.pointer (some ⟨x.p, 0, none⟩), .pointer (some ⟨y.p, 0, none⟩)] w fun e w' => e = .returned (.bool r) ∧ Below w.heap.size w w' := by
 obtain ⟨px, py, r1, r2, r3, r4, r5, h, hi⟩ := SameW.of h1 h2
 have hno : ¬ (((r1 = true ∧ r2 = true) ∧ r3 = true) ∧ r4 = true) → r = false := fun h9 => by
  cases r with
  | false => rfl
  | true => exact absurd (hi.2 (hr.1 rfl)).1 h9
 cases r1 with
 | false => rw [hno (by simp)]; exact same_no w x y b b' px py _ _ _ _ _ h (Or.inl rfl)
 | true => cases r2 with
  | false => rw [hno (by simp)]; exact same_no w x y b b' px py _ _ _ _ _ h (Or.inr ⟨rfl, Or.inl rfl⟩)
  | true => cases r3 with
   | false => rw [hno (by simp)]; exact same_no w x y b b' px py _ _ _ _ _ h (Or.inr ⟨rfl, Or.inr ⟨rfl, Or.inl rfl⟩⟩)
   | true => cases r4 with
    | false => rw [hno (by simp)]; exact same_no w x y b b' px py _ _ _ _ _ h (Or.inr ⟨rfl, Or.inr ⟨rfl, Or.inr ⟨rfl, rfl⟩⟩⟩)
    | true =>
     have : r = r5 := same_as hr (by rw [← hi]; simp)
     rw [this]
     exact same_yes w x y b b' px py r5 h
end Go.Proofs.YteomomeigbfeoaaGreatDoor
