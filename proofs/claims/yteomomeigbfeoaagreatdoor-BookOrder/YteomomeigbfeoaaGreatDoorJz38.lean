/-
 maps.Equal at sums: true just if both maps have the same entries, in whatever order; nothing old is turned.
-/
import Derived.Test.YteomomeigbfeoaaGreatDoorJz26
import Derived.Laws.StructEq
import Derived.Test.YteomomeigbfeoaaGreatDoorJz15
import Derived.Lib.QuietBelow
import Derived.BigQuiet
import Derived.Test.YteomomeigbfeoaaGreatDoorBDo
import Derived.Test.YteomomeigbfeoaaGreatDoorJz14
import Derived.Test.YteomomeigbfeoaaGreatDoorJz3
set_option maxRecDepth 100000
set_option maxHeartbeats 16000000
namespace Go.Proofs.YteomomeigbfeoaaGreatDoor
open Go.RowKit Go.Lib Go.Sort
abbrev entUo : (ByteArray × Su) → Ent := entO (fun g : (ByteArray × Su) => g.1) (fun g : (ByteArray × Su) => Value.agg #[(Value.int .i64 g.2.1), (Value.int .i64 g.2.2.1), (Value.int .i64 g.2.2.2.1), (Value.int .i64 g.2.2.2.2)])
section
variable {w : World} {ops : Array Oper} {rest : List Oper} {o : Oper} {a : Act} {Q : Exit → Act → World → Prop}
theorem wpUo_next (hg : o.guard = none) (it : Operand) (hop : o.op = Op.next it false) (b r : Nat) (L : List Ent) (t : List (ByteArray × Su)) (hit : a.eval it = .pointer (some ⟨r, 0, none⟩)) (h : RangeL Tryz.prog 9 w b r L (t.map entUo))
  (hDone : t = [] → wpList Tryz.prog ops Q rest (a.put o.dst (.tuple #[.bool false])) w)
  (hMore : ∀ (xk : ByteArray) (xi : Int) (xo : Int) (xm : Int) (xl : Int) t' w', t.Perm ((xk, xi, xo, xm, xl) :: t') → RangeL Tryz.prog 9 w' b r L (t'.map entUo) → w.grownBy w' (some r) → w'.heap.size = w.heap.size → (Instr.entry (.pointer (some ⟨r, 0, none⟩))).run Tryz.prog w' = .ok (.tuple #[.string xk, .agg #[.int .i64 xi, .int .i64 xo, .int .i64 xm, .int .i64 xl]]) w' →
   wpList Tryz.prog ops Q rest (a.put o.dst (.tuple #[.bool true, .string xk, .agg #[.int .i64 xi, .int .i64 xo, .int .i64 xm, .int .i64 xl]])) w') : wpList Tryz.prog ops Q (o :: rest) a w :=
 wpO_next (fun g : (ByteArray × Su) => g.1) (fun g : (ByteArray × Su) => Value.agg #[(Value.int .i64 g.2.1), (Value.int .i64 g.2.2.1), (Value.int .i64 g.2.2.2.1), (Value.int .i64 g.2.2.2.2)]) hg it hop b r L t hit h hDone fun ⟨xk, xi, xo, xm, xl⟩ t' w' h1 h2 h3 h4 h5 => hMore xk xi xo xm xl t' w' h1 h2 h3 h4 h5
end
theorem askUo_hit {W : World} {b : Nat} {m : List (ByteArray × Su)} (h : MapL Tryz.prog 9 W b (m.map entUo)) {c : ByteArray} {kl : Lit} (hk : keyOf Tryz.prog 9 (.string c) = some kl) {yk : ByteArray} {yi : Int} {yo : Int} {ym : Int} {yl : Int} (hy : findN (fun g : (ByteArray × Su) => g.1) m c = some (yk, yi, yo, ym, yl)) : (Instr.lookup 92 (.map (some b)) (.string c) true).run Tryz.prog W = .ok (.tuple #[.agg #[.int .i64 yi, .int .i64 yo, .int .i64 ym, .int .i64 yl], .bool true]) W :=
 askO_hit (v := (fun g : (ByteArray × Su) => Value.agg #[(Value.int .i64 g.2.1), (Value.int .i64 g.2.2.1), (Value.int .i64 g.2.2.2.1), (Value.int .i64 g.2.2.2.2)])) Tryz.keyedS Tryz.underlying92 h hk hy
theorem askUo_miss {W : World} {b : Nat} {m : List (ByteArray × Su)} (h : MapL Tryz.prog 9 W b (m.map entUo)) {c : ByteArray} {kl : Lit} (hk : keyOf Tryz.prog 9 (.string c) = some kl) (hy : findN (fun g : (ByteArray × Su) => g.1) m c = none) : (Instr.lookup 92 (.map (some b)) (.string c) true).run Tryz.prog W = .ok (.tuple #[.agg #[.int .i64 0, .int .i64 0, .int .i64 0, .int .i64 0], .bool false]) W :=
 askO_miss (v := (fun g : (ByteArray × Su) => Value.agg #[(Value.int .i64 g.2.1), (Value.int .i64 g.2.2.1), (Value.int .i64 g.2.2.2.1), (Value.int .i64 g.2.2.2.2)])) Tryz.keyedS Tryz.underlying92 h hk (Tryz.zeroValue46 W) hy
theorem equalU_any (w : World) (b1 b2 : Nat) (m1 m2 : List (ByteArray × Su)) (h1 : MapL Tryz.prog 9 w b1 (m1.map entUo)) (h2 : MapL Tryz.prog 9 w b2 (m2.map entUo)) (s1 : m1.length ≤ 1000) (s2 : m2.length ≤ 1000) :
  Calls Tryz.prog 52 #[.map (some b1), .map (some b2)] w fun e w' => ∃ r, e = .returned (.bool r) ∧ (r = true ↔ m1.Perm m2) ∧ Below w.heap.size w w' := by
 have HN1 : Hid ((m1.map (fun g : (ByteArray × Su) => g.1)).Nodup) := names_nodup h1
 have HN2 : Hid ((m2.map (fun g : (ByteArray × Su) => g.1)).Nodup) := names_nodup h2
 have HK : Hid (∀ (xk : ByteArray) (xi : Int) (xo : Int) (xm : Int) (xl : Int), (xk, xi, xo, xm, xl) ∈ m1 → ∃ kl, keyOf Tryz.prog 9 (.string xk) = some kl) := fun xk xi xo xm xl hx => h1.keys _ (List.mem_map.2 ⟨_, hx, rfl⟩)
 have H2 : Hid (∀ W, Below w.heap.size w W → MapL Tryz.prog 9 W b2 (m2.map entUo)) := fun W hb => h2.below hb h2.lt
 obtain ⟨l1, hl1⟩ : ∃ l1, (m1.map entUo).length = l1 := ⟨_, rfl⟩
 obtain ⟨l2, hl2⟩ : ∃ l2, (m2.map entUo).length = l2 := ⟨_, rfl⟩
 have q1 : m1.length = l1 := by rw [← hl1]; simp
 have q2 : m2.length = l2 := by rw [← hl2]; simp
 have t1 : l1 ≤ 1000 := by omega
 have t2 : l2 ≤ 1000 := by omega
 clear s1 s2
 go_enter Tryz.func52, Tryz.ntmps52
 by_cases hll : l1 = l2
 ·have HLe : Hid (m1.length = m2.length) := by show _ = _; omega
  subst hll
  clear q1 q2
  go_wp2_with (first
   | (at_len; refine wpL_len rfl _ 92 rfl 9 46 Tryz.underlying92 b1 _ l1 hl1 rfl h1 ?_)
   | (at_len; refine wpL_len rfl _ 92 rfl 9 46 Tryz.underlying92 b2 _ l1 hl2 rfl h2 ?_)
   | (at_range; refine wpL_range rfl _ 92 rfl 9 46 Tryz.underlying92 b1 (m1.map entUo) rfl h1 ?_; intro w0 hrg0 hg0 hs0))
  go_frame
  have hb0 : Below w.heap.size w w0 := ⟨hg0.os, hg0.tape, hg0.output, hg0.size, fun k hk => hg0.block k hk (by simp)⟩
  clear hg0 hs0 h1 h2 hl1 hl2 t1 t2
  go_loopw [] (fun wr => ∃ d t : List (ByteArray × Su), EqS (fun g : (ByteArray × Su) => g.1) m1 m2 d t ∧ RangeL Tryz.prog 9 wr b1 w.heap.size (m1.map entUo) (t.map entUo) ∧ Below w.heap.size w wr) (fun wr => wr.rangeLeft b1 w.heap.size)
  case atStart => exact ⟨[], m1, EqS.start _ _, hrg0, hb0⟩
  case round =>
   obtain ⟨d, t, hE, hrg, hb⟩ := hrel
   have HE : Hid (EqS _ _ _ _ _) := hE
   go_wp2_with (at_next; refine wpUo_next rfl _ rfl b1 w.heap.size _ t rfl hrg ?_ ?_)
   ·intro ht
    subst ht
    go_wp2
    go_ret
    exact ⟨true, rfl, ⟨fun _ => HE.out.done HN1.out HLe.out, fun _ => rfl⟩, hb⟩
   ·intro xk xi xo xm xl t' w1 hp1 hrg1 hg1 hs1 hen
    have hb1 := grown_below hb (Nat.le_refl _) hg1
    have HP : Hid (t.Perm ((xk, xi, xo, xm, xl) :: t')) := hp1
    have HM : Hid (wr.rangeLeft b1 w.heap.size = w1.rangeLeft b1 w.heap.size + 1) := by
     show _ = _
     rw [hrg.left_eq, hrg1.left_eq]
     have := hp1.length_eq
     simpa using this
    obtain ⟨kl, hkl⟩ := HK.out xk xi xo xm xl (hE.perm.mem_iff.1 (List.mem_append.2 (Or.inr (hp1.mem_iff.2 (List.mem_cons_self ..)))))
    have hbN := hb1.alloc hb1.size (.cells #[.int .i64 xi, .int .i64 xo, .int .i64 xm, .int .i64 xl] 46)
    have hbM : Below w1.heap.size w1 (w1.alloc (.cells #[.int .i64 xi, .int .i64 xo, .int .i64 xm, .int .i64 xl] 46)) := (Below.refl _ w1).alloc (Nat.le_refl _) _
    have nN := heap_alloc_new w1 (.cells #[.int .i64 xi, .int .i64 xo, .int .i64 xm, .int .i64 xl] 46)
    obtain ⟨W2, hW2⟩ : ∃ W2, w1.alloc (.cells #[.int .i64 xi, .int .i64 xo, .int .i64 xm, .int .i64 xl] 46) = W2 := ⟨_, rfl⟩
    rw [hW2] at hbN nN hbM
    have hrg2 : RangeL Tryz.prog 9 W2 b1 w.heap.size (m1.map entUo) (t'.map entUo) := hrg1.below hbM hrg1.map.lt hrg1.lt
    have HL2 : Hid (W2.rangeLeft b1 w.heap.size = w1.rangeLeft b1 w.heap.size) := hrg2.left_eq.trans hrg1.left_eq.symm
    cases hfi : findN (fun g : (ByteArray × Su) => g.1) m2 xk with
    | none =>
     obtain ⟨V1, V2, V3, V4, V5, e1, e2, e3, e4, e5, ⟨k1, k2, k3, k4, k5⟩, ⟨k6, k7⟩, ⟨k8, k9⟩, ⟨k10, k11⟩, n5, kb1, kb5⟩ := boxed4 W2 (.int .i64 0) (.int .i64 0) (.int .i64 0) (.int .i64 0) (.int .i64 0) (.int .i64 0) (.int .i64 0) (.int .i64 0) 46
     have hl := askUo_miss (H2.out W2 hbN) hkl hfi
     have HB5 : Hid (Below w.heap.size w V5) := hbN.trans (kb5.mono hbN.size)
     clear hE hp1 hrg hrg1 hg1 hb hb1 hbN hbM nN hrg2 hs1 hkl n5 kb5
     go_wp2_with (at_lookup; refine wpL_ask rfl _ _ 92 rfl b2 _ _ rfl rfl hl ?_)
     go_ret
     exact ⟨false, rfl, ⟨fun e9 => (by cases e9), fun e9 => absurd e9 (HE.out.miss HP.out hfi)⟩, HB5.out⟩
    | some y =>
     obtain ⟨yk, yi, yo, ym, yl⟩ := y
     have kb5 : Below W2.heap.size W2 (W2.alloc (.cells #[.int .i64 yi, .int .i64 yo, .int .i64 ym, .int .i64 yl] 46)) := (Below.refl _ W2).alloc (Nat.le_refl _) _
     have n5 := heap_alloc_new W2 (.cells #[.int .i64 yi, .int .i64 yo, .int .i64 ym, .int .i64 yl] 46)
     obtain ⟨V5, hV5⟩ : ∃ V5, W2.alloc (.cells #[.int .i64 yi, .int .i64 yo, .int .i64 ym, .int .i64 yl] 46) = V5 := ⟨_, rfl⟩
     rw [hV5] at kb5 n5
     have hl := askUo_hit (H2.out W2 hbN) hkl hfi
     have n9 := (kb5.block _ (Array.getElem?_eq_some_iff.1 nN).1).trans nN
     have c0 : V5.cell? ⟨w1.heap.size, 0, none⟩ = some (.int .i64 xi) := by rw [cell_of_heap n9]; rfl
     have c1 : V5.cell? ⟨w1.heap.size, 1, none⟩ = some (.int .i64 xo) := by rw [cell_of_heap n9]; rfl
     have c2 : V5.cell? ⟨w1.heap.size, 2, none⟩ = some (.int .i64 xm) := by rw [cell_of_heap n9]; rfl
     have c3 : V5.cell? ⟨w1.heap.size, 3, none⟩ = some (.int .i64 xl) := by rw [cell_of_heap n9]; rfl
     have d0 : V5.cell? ⟨W2.heap.size, 0, none⟩ = some (.int .i64 yi) := by rw [cell_of_heap n5]; rfl
     have d1 : V5.cell? ⟨W2.heap.size, 1, none⟩ = some (.int .i64 yo) := by rw [cell_of_heap n5]; rfl
     have d2 : V5.cell? ⟨W2.heap.size, 2, none⟩ = some (.int .i64 ym) := by rw [cell_of_heap n5]; rfl
     have d3 : V5.cell? ⟨W2.heap.size, 3, none⟩ = some (.int .i64 yl) := by rw [cell_of_heap n5]; rfl
     have HB5 : Hid (Below w.heap.size w V5) := hbN.trans (kb5.mono hbN.size)
     have HR5 : Hid (RangeL Tryz.prog 9 V5 b1 w.heap.size (m1.map entUo) (t'.map entUo)) := hrg2.below kb5 hrg2.map.lt hrg2.lt
     have HLL : Hid (V5.rangeLeft b1 w.heap.size = W2.rangeLeft b1 w.heap.size) := HR5.out.left_eq.trans hrg2.left_eq.symm
     have hq := fun W => eqU_run (xi, xo, xm, xl) (yi, yo, ym, yl) W
     have hgd := Tryz.guardU
     clear hE hp1 hrg hrg1 hg1 hb hb1 hbN hbM nN hrg2 hs1 hkl n5 n9 kb5
     simp only at hq
     by_cases hxy : (xi, xo, xm, xl) = (yi, yo, ym, yl)
     ·have hdec : decide ((xi, xo, xm, xl) = (yi, yo, ym, yl)) = true := decide_eq_true hxy
      rw [hdec] at hq
      have HS : Hid (EqS _ m1 m2 (d ++ [(xk, xi, xo, xm, xl)]) t') := HE.out.step HP.out (by rw [hfi]; exact congrArg some (by have hk : yk = xk := (findN_mem hfi).2; rw [hk, hxy] : ((xk, xi, xo, xm, xl) : ByteArray × Su) = (yk, yi, yo, ym, yl)).symm)
      clear hdec
      go_wp2_with (at_lookup; refine wpL_ask rfl _ _ 92 rfl b2 _ _ rfl rfl hl ?_)
      go_roundw
      case rel => exact ⟨_, t', HS.out, HR5.out, HB5.out⟩
      case measure => show World.rangeLeft _ _ _ < _; rw [HM.out, ← HL2.out, HLL.out]; exact Nat.lt_succ_self _
     ·have hdec : decide ((xi, xo, xm, xl) = (yi, yo, ym, yl)) = false := decide_eq_false hxy
      rw [hdec] at hq
      clear hdec
      go_wp2_with (at_lookup; refine wpL_ask rfl _ _ 92 rfl b2 _ _ rfl rfl hl ?_)
      go_ret
      exact ⟨false, rfl, ⟨fun e9 => (by cases e9), fun e9 => absurd e9 (HE.out.other HP.out HN2.out hfi (fun e9 => hxy (congrArg Prod.snd e9)))⟩, HB5.out⟩
 ·have HLe : Hid (¬ m1.Perm m2) := fun e9 => hll (by have := e9.length_eq; omega)
  have hll' : (l1 : Int) ≠ (l2 : Int) := by omega
  clear q1 q2
  go_wp2_with (first
   | (at_len; refine wpL_len rfl _ 92 rfl 9 46 Tryz.underlying92 b1 _ l1 hl1 rfl h1 ?_)
   | (at_len; refine wpL_len rfl _ 92 rfl 9 46 Tryz.underlying92 b2 _ l2 hl2 rfl h2 ?_))
  go_ret
  exact ⟨false, rfl, ⟨fun e9 => (by cases e9), fun e9 => absurd e9 HLe.out⟩, Below.refl _ _⟩
end Go.Proofs.YteomomeigbfeoaaGreatDoor
namespace Go.Proofs.YteomomeigbfeoaaGreatDoor
open Go.RowKit Go.Lib Go.Sort
theorem entG_map (b : Bk) : b.1.map entG = (gdsB b).map entGo := by unfold gdsB; rw [List.map_map]; rfl
theorem entU_map (b : Bk) : b.1.map entU = (susB b).map entUo := by unfold susB; rw [List.map_map]; rfl
theorem entL_map (b : Bk) : b.2.1.map entL = (losB b).map entQo := by unfold losB; rw [List.map_map]; rfl
theorem entH_map (b : Bk) : b.2.1.map entH = (hesB b).map entHo := by unfold hesB; rw [List.map_map]; rfl
theorem is_dec (p : Prop) : ∃ r : Bool, r = true ↔ p := by
 rcases Classical.em p with h | h
 ·exact ⟨true, by simp [h]⟩
 ·exact ⟨false, by simp [h]⟩
theorem same_as {r r' : Bool} {p : Prop} (h : r = true ↔ p) (h' : r' = true ↔ p) : r = r' := by
 cases r <;> cases r' <;> simp_all
structure SameW (w : World) (x y : Bl) (b b' : Bk) (px py : Nat) (r1 r2 r3 r4 r5 : Bool) : Prop where
 cx : ∀ W, Below w.heap.size w W → (W.cell? ⟨x.p, 0, none⟩ = some (.map (some x.g)) ∧ W.cell? ⟨x.p, 1, none⟩ = some (.map (some x.u)) ∧ W.cell? ⟨x.p, 2, none⟩ = some (.map (some x.l)) ∧ W.cell? ⟨x.p, 3, none⟩ = some (.map (some x.h)) ∧ W.cell? ⟨x.p, 4, none⟩ = some (.pointer (some ⟨px, 0, none⟩)))
 cy : ∀ W, Below w.heap.size w W → (W.cell? ⟨y.p, 0, none⟩ = some (.map (some y.g)) ∧ W.cell? ⟨y.p, 1, none⟩ = some (.map (some y.u)) ∧ W.cell? ⟨y.p, 2, none⟩ = some (.map (some y.l)) ∧ W.cell? ⟨y.p, 3, none⟩ = some (.map (some y.h)) ∧ W.cell? ⟨y.p, 4, none⟩ = some (.pointer (some ⟨py, 0, none⟩)))
 G : ∀ W, Below w.heap.size w W → Calls Tryz.prog 51 #[.map (some x.g), .map (some y.g)] W fun e w' => e = .returned (.bool r1) ∧ Below W.heap.size W w'
 U : ∀ W, Below w.heap.size w W → Calls Tryz.prog 52 #[.map (some x.u), .map (some y.u)] W fun e w' => e = .returned (.bool r2) ∧ Below W.heap.size W w'
 Q : ∀ W, Below w.heap.size w W → Calls Tryz.prog 53 #[.map (some x.l), .map (some y.l)] W fun e w' => e = .returned (.bool r3) ∧ Below W.heap.size W w'
 H : ∀ W, Below w.heap.size w W → Calls Tryz.prog 54 #[.map (some x.h), .map (some y.h)] W fun e w' => e = .returned (.bool r4) ∧ Below W.heap.size W w'
 lx : ∀ W, Below w.heap.size w W → Calls Tryz.prog 31 #[.pointer (some ⟨px, 0, none⟩)] W fun e w' => ∃ g c, e = .returned (.slice (some ⟨g, 0, none⟩) b.2.2.length c) ∧ RowN w' g b.2.2 ∧ Below W.heap.size W w'
 ly : ∀ W, Below w.heap.size w W → Calls Tryz.prog 31 #[.pointer (some ⟨py, 0, none⟩)] W fun e w' => ∃ g c, e = .returned (.slice (some ⟨g, 0, none⟩) b'.2.2.length c) ∧ RowN w' g b'.2.2 ∧ Below W.heap.size W w'
 N : ∀ W g g' c c', RowN W g b.2.2 → RowN W g' b'.2.2 → Calls Tryz.prog 55 #[.slice (some ⟨g, 0, none⟩) b.2.2.length c, .slice (some ⟨g', 0, none⟩) b'.2.2.length c'] W fun e w' => e = .returned (.bool r5) ∧ Below W.heap.size W w'
 wx : Calls Tryz.prog 41 #[.pointer (some ⟨x.p, 0, none⟩)] w fun e w' => e = .returned (.pointer (some ⟨x.p, 0, none⟩)) ∧ w' = w
 wy : Calls Tryz.prog 41 #[.pointer (some ⟨y.p, 0, none⟩)] w fun e w' => e = .returned (.pointer (some ⟨y.p, 0, none⟩)) ∧ w' = w
theorem SameW.of {w : World} {B1 B2 : Nat} {x y : Bl} {b b' : Bk} (h1 : IsBk w B1 x b) (h2 : IsBk w B2 y b') : ∃ px py r1 r2 r3 r4 r5, SameW w x y b b' px py r1 r2 r3 r4 r5 ∧ ((((r1 = true ∧ r2 = true) ∧ r3 = true) ∧ r4 = true) ∧ r5 = true ↔ b = b') := by
 have hwx := whole_any w B1 x b h1
 have hwy := whole_any w B2 y b' h2
 obtain ⟨px, qx, h1⟩ := h1
 obtain ⟨py, qy, h2⟩ := h2
 obtain ⟨r1, e1⟩ := is_dec ((gdsB b).Perm (gdsB b'))
 obtain ⟨r2, e2⟩ := is_dec ((susB b).Perm (susB b'))
 obtain ⟨r3, e3⟩ := is_dec ((losB b).Perm (losB b'))
 obtain ⟨r4, e4⟩ := is_dec ((hesB b).Perm (hesB b'))
 obtain ⟨r5, e5⟩ := is_dec (b.2.2 = b'.2.2)
 have k1 := h1.ok.wf.gl
 have k2 := h2.ok.wf.gl
 have k3 := h1.ok.wf.ll
 have k4 := h2.ok.wf.ll
 have k5 := h1.ok.wf.st.len
 have k6 := h2.ok.wf.st.len
 refine ⟨px, py, r1, r2, r3, r4, r5, { cx := ?_, cy := ?_, G := ?_, U := ?_, Q := ?_, H := ?_, lx := ?_, ly := ?_, N := ?_, wx := hwx, wy := hwy }, ?_⟩
 ·intro W hb
  obtain ⟨p0, p1, p2, p3, p4, _⟩ := (h1.all hb).cells
  exact ⟨p0, p1, p2, p3, p4⟩
 ·intro W hb
  obtain ⟨p0, p1, p2, p3, p4, _⟩ := (h2.all hb).cells
  exact ⟨p0, p1, p2, p3, p4⟩
 ·intro W hb
  refine (equalG_any W x.g y.g (gdsB b) (gdsB b') (by rw [← entG_map]; exact (h1.all hb).G) (by rw [← entG_map]; exact (h2.all hb).G) (by unfold gdsB; rw [List.length_map]; omega) (by unfold gdsB; rw [List.length_map]; omega)).mono ?_
  rintro e w' ⟨r, rfl, hr, hb'⟩
  exact ⟨by rw [same_as hr e1], hb'⟩
 ·intro W hb
  refine (equalU_any W x.u y.u (susB b) (susB b') (by rw [← entU_map]; exact (h1.all hb).U) (by rw [← entU_map]; exact (h2.all hb).U) (by unfold susB; rw [List.length_map]; omega) (by unfold susB; rw [List.length_map]; omega)).mono ?_
  rintro e w' ⟨r, rfl, hr, hb'⟩
  exact ⟨by rw [same_as hr e2], hb'⟩
 ·intro W hb
  refine (equalQ_any W x.l y.l (losB b) (losB b') (by rw [← entL_map]; exact (h1.all hb).L) (by rw [← entL_map]; exact (h2.all hb).L) (by unfold losB; rw [List.length_map]; omega) (by unfold losB; rw [List.length_map]; omega)).mono ?_
  rintro e w' ⟨r, rfl, hr, hb'⟩
  exact ⟨by rw [same_as hr e3], hb'⟩
 ·intro W hb
  refine (equalH_any W x.h y.h (hesB b) (hesB b') (by rw [← entH_map]; exact (h1.all hb).H) (by rw [← entH_map]; exact (h2.all hb).H) (by unfold hesB; rw [List.length_map]; omega) (by unfold hesB; rw [List.length_map]; omega)).mono ?_
  rintro e w' ⟨r, rfl, hr, hb'⟩
  exact ⟨by rw [same_as hr e4], hb'⟩
 ·intro W hb
  refine (lines_any W px qx b.2.2 (h1.all hb).S).mono ?_
  rintro e w' ⟨g, c, rfl, _, hr, hb'⟩
  exact ⟨g, c, rfl, hr, hb'⟩
 ·intro W hb
  refine (lines_any W py qy b'.2.2 (h2.all hb).S).mono ?_
  rintro e w' ⟨g, c, rfl, _, hr, hb'⟩
  exact ⟨g, c, rfl, hr, hb'⟩
 ·intro W g g' c c' hg hg'
  refine (equalN_any W g g' c c' b.2.2 b'.2.2 hg hg' (by omega) (by omega)).mono ?_
  rintro e w' ⟨r, rfl, hr, hb'⟩
  exact ⟨by rw [same_as hr e5], hb'⟩
 ·rw [e1, e2, e3, e4, e5]
  exact bk_same h1.ok h2.ok
theorem same_yes (w : World) (x y : Bl) (b b' : Bk) (px py : Nat) (r5 : Bool) (h : SameW w x y b b' px py true true true true r5) :
  Calls Tryz.prog 14 #[.pointer (some ⟨x.p, 0, none⟩), .pointer (some ⟨y.p, 0, none⟩)] w fun e w' => e = .returned (.bool r5) ∧ Below w.heap.size w w' := by
 have HW : Hid (SameW _ _ _ _ _ _ _ _ _ _ _ _) := h
 have HX : Hid (Calls Tryz.prog 41 _ _ _) := h.wx
 have HY : Hid (Calls Tryz.prog 41 _ _ _) := h.wy
 have HB0 : Hid (Below w.heap.size w w.drew) := (Below.refl _ w).drew
 obtain ⟨p0, p1, p2, p3, p4⟩ := h.cx w (Below.refl _ _)
 obtain ⟨q0, q1, q2, q3, q4⟩ := h.cy w (Below.refl _ _)
 clear h
 generalize b.2.2.length = lb at *
 generalize b'.2.2.length = lb' at *
 go_enter Tryz.func14, Tryz.ntmps14
 go_wp2_with (first
  | (go_at_call 41; refine HX.out.mono ?_; clear HX; rintro e w1 ⟨rfl, hw⟩; have hw' := hw.symm; subst hw')
  | (go_at_call 41; refine HY.out.mono ?_; rintro e w1 ⟨rfl, hw⟩; have hw' := hw.symm; subst hw'))
 go_region_held3 (fun w' => (w'.cell? ⟨x.p, 0, none⟩ = some (.map (some x.g)) ∧ w'.cell? ⟨x.p, 1, none⟩ = some (.map (some x.u)) ∧ w'.cell? ⟨x.p, 2, none⟩ = some (.map (some x.l)) ∧ w'.cell? ⟨x.p, 3, none⟩ = some (.map (some x.h)) ∧ w'.cell? ⟨x.p, 4, none⟩ = some (.pointer (some ⟨px, 0, none⟩))) ∧ (w'.cell? ⟨y.p, 0, none⟩ = some (.map (some y.g)) ∧ w'.cell? ⟨y.p, 1, none⟩ = some (.map (some y.u)) ∧ w'.cell? ⟨y.p, 2, none⟩ = some (.map (some y.l)) ∧ w'.cell? ⟨y.p, 3, none⟩ = some (.map (some y.h)) ∧ w'.cell? ⟨y.p, 4, none⟩ = some (.pointer (some ⟨py, 0, none⟩)))) (go_keep) (first
  | (go_at_call 51; refine (HW.out.G _ HB0.out).mono ?_; rintro e w2 ⟨rfl, hb⟩; have K1 : Hid (Below w.heap.size w w2) := HB0.out.trans (hb.mono HB0.out.size); obtain ⟨a0, a1, a2, a3, a4⟩ := HW.out.cx _ K1.out; obtain ⟨b0, b1, b2, b3, b4⟩ := HW.out.cy _ K1.out; clear hb)
  | (go_at_call 52; refine (HW.out.U _ K1.out).mono ?_; rintro e w3 ⟨rfl, hb⟩; have K2 : Hid (Below w.heap.size w w3) := K1.out.trans (hb.mono K1.out.size); obtain ⟨c0, c1, c2, c3, c4⟩ := HW.out.cx _ K2.out; obtain ⟨d0, d1, d2, d3, d4⟩ := HW.out.cy _ K2.out; clear hb)
  | (go_at_call 53; refine (HW.out.Q _ K2.out).mono ?_; rintro e w4 ⟨rfl, hb⟩; have K3 : Hid (Below w.heap.size w w4) := K2.out.trans (hb.mono K2.out.size); obtain ⟨e0, e1, e2, e3, e4⟩ := HW.out.cx _ K3.out; obtain ⟨f0, f1, f2, f3, f4⟩ := HW.out.cy _ K3.out; clear hb)
  | (go_at_call 54; refine (HW.out.H _ K3.out).mono ?_; rintro e w5 ⟨rfl, hb⟩; have K4 : Hid (Below w.heap.size w w5) := K3.out.trans (hb.mono K3.out.size); obtain ⟨g0, g1, g2, g3, g4⟩ := HW.out.cx _ K4.out; obtain ⟨h0, h1, h2, h3, h4⟩ := HW.out.cy _ K4.out; have HL : Hid (Calls Tryz.prog 31 _ w5 _) := HW.out.lx _ K4.out; clear hb)
  | (go_at_call 31; refine HL.out.mono ?_; clear HL; rintro e w6 ⟨gx, kx, rfl, hr, hb⟩; have K5 : Hid (Below w.heap.size w w6) := K4.out.trans (hb.mono K4.out.size); have R5 : Hid (RowN w6 gx b.2.2) := hr; obtain ⟨i0, i1, i2, i3, i4⟩ := HW.out.cx _ K5.out; obtain ⟨j0, j1, j2, j3, j4⟩ := HW.out.cy _ K5.out; clear hb hr)
  | (go_at_call 31; refine (HW.out.ly _ K5.out).mono ?_; rintro e w7 ⟨gy, ky, rfl, hr, hb⟩; have K6 : Hid (Below w.heap.size w w7) := K5.out.trans (hb.mono K5.out.size); have R6 : Hid (RowN w7 gx b.2.2) := R5.out.below hb; have R7 : Hid (RowN w7 gy b'.2.2) := hr; obtain ⟨l0, l1, l2, l3, l4⟩ := HW.out.cx _ K6.out; obtain ⟨m0, m1, m2, m3, m4⟩ := HW.out.cy _ K6.out; clear hb hr)
  | (go_at_call 55; refine (HW.out.N _ _ _ _ _ R6.out R7.out).mono ?_; rintro e w8 ⟨rfl, hb⟩; have K7 : Hid (Below w.heap.size w w8) := K6.out.trans (hb.mono K6.out.size); obtain ⟨n0, n1, n2, n3, n4⟩ := HW.out.cx _ K7.out; obtain ⟨o0, o1, o2, o3, o4⟩ := HW.out.cy _ K7.out; clear hb))
 go_wp2
 go_ret
 exact ⟨rfl, K7.out⟩
theorem same_no (w : World) (x y : Bl) (b b' : Bk) (px py : Nat) (r1 r2 r3 r4 r5 : Bool) (h : SameW w x y b b' px py r1 r2 r3 r4 r5) (hr : r1 = false ∨ r1 = true ∧ (r2 = false ∨ r2 = true ∧ (r3 = false ∨ r3 = true ∧ r4 = false))) :
  Calls Tryz.prog 14 #[.pointer (some ⟨x.p, 0, none⟩), .pointer (some ⟨y.p, 0, none⟩)] w fun e w' => e = .returned (.bool false) ∧ Below w.heap.size w w' := by
 have HX : Hid (Calls Tryz.prog 41 _ _ _) := h.wx
 have HY : Hid (Calls Tryz.prog 41 _ _ _) := h.wy
 obtain ⟨p0, p1, p2, p3, p4⟩ := h.cx w (Below.refl _ _)
 obtain ⟨q0, q1, q2, q3, q4⟩ := h.cy w (Below.refl _ _)
 have i0 := cell_regrown p0
 have i1 := cell_regrown p1
 have i2 := cell_regrown p2
 have i3 := cell_regrown p3
 have j0 := cell_regrown q0
 have j1 := cell_regrown q1
 have j2 := cell_regrown q2
 have j3 := cell_regrown q3
 have hbR : ∀ d os, Below w.heap.size w (grow (redrawn w d) os) := fun d os => below_regrown w d os
 have cG := fun d os => Calls.regrown_of (w := w) (d := d) (os := os) (h.G _ (hbR d os))
 have cU := fun d os => Calls.regrown_of (w := w) (d := d) (os := os) (h.U _ (hbR d os))
 have cQ := fun d os => Calls.regrown_of (w := w) (d := d) (os := os) (h.Q _ (hbR d os))
 have cH := fun d os => Calls.regrown_of (w := w) (d := d) (os := os) (h.H _ (hbR d os))
 clear h
 go_enter Tryz.func14, Tryz.ntmps14
 go_wp2_with (first
  | (go_at_call 41; refine HX.out.mono ?_; clear HX; rintro e w1 ⟨rfl, hw⟩; have hw' := hw.symm; subst hw')
  | (go_at_call 41; refine HY.out.mono ?_; rintro e w1 ⟨rfl, hw⟩; have hw' := hw.symm; subst hw'))
 rcases hr with rfl | ⟨rfl, rfl | ⟨rfl, rfl | ⟨rfl, rfl⟩⟩⟩
 all_goals
  refine wp_region_quiet_below (by kernel_rfl) (by kernel_rfl) ?_
  repeat (first | go_big_quiet_skip | quiet_step (first
   | (go_at_call 51; exact cG _ _)
   | (go_at_call 52; exact cU _ _)
   | (go_at_call 53; exact cQ _ _)
   | (go_at_call 54; exact cH _ _)))
  refine wpQuiet_nil ?_
  intro _ hw'
  obtain ⟨⟨dq, osq⟩, hw''⟩ := hw'
  subst hw''
  have hbE := below_regrown w dq osq
  generalize grow (redrawn w dq) osq = W2 at *
  go_wp2
  go_ret
  exact ⟨rfl, hbE⟩
theorem same_any (w : World) (B1 B2 : Nat) (x y : Bl) (b b' : Bk) (h1 : IsBk w B1 x b) (h2 : IsBk w B2 y b') (r : Bool) (hr : r = true ↔ b = b') :
  Calls Tryz.prog 14 #[.pointer (some ⟨x.p, 0, none⟩), .pointer (some ⟨y.p, 0, none⟩)] w fun e w' => e = .returned (.bool r) ∧ Below w.heap.size w w' := by
 obtain ⟨px, py, r1, r2, r3, r4, r5, h, hi⟩ := SameW.of h1 h2
 have hno : ¬ (((r1 = true ∧ r2 = true) ∧ r3 = true) ∧ r4 = true) → r = false := fun h9 => by
  cases r with
  | false => rfl
  | true => exact absurd (hi.2 (hr.1 rfl)).1 h9
 cases r1 with
 | false => rw [hno (by simp)]; exact same_no w x y b b' px py _ _ _ _ _ h (Or.inl rfl)
 | true => cases r2 with
  | false => rw [hno (by simp)]; exact same_no w x y b b' px py _ _ _ _ _ h (Or.inr ⟨rfl, Or.inl rfl⟩)
  | true => cases r3 with
   | false => rw [hno (by simp)]; exact same_no w x y b b' px py _ _ _ _ _ h (Or.inr ⟨rfl, Or.inr ⟨rfl, Or.inl rfl⟩⟩)
   | true => cases r4 with
    | false => rw [hno (by simp)]; exact same_no w x y b b' px py _ _ _ _ _ h (Or.inr ⟨rfl, Or.inr ⟨rfl, Or.inr ⟨rfl, rfl⟩⟩⟩)
    | true =>
     have : r = r5 := same_as hr (by rw [← hi]; simp)
     rw [this]
     exact same_yes w x y b b' px py r5 h
theorem Enc.Row.of_blocks {α : Type} {E : Enc α} {w w' : World} {B : Nat} {T : TypeId} {v : Value} {m : List α} (h : E.Row w B T v m) (hk : ∀ (g : Nat) (cur : Array Value), w.heap[g]? = some (Obj.cells cur T (0, 0)) → w'.heap[g]? = w.heap[g]?) : E.Row w' B T v m := by
 rcases h.2 with ⟨h1, h2⟩ | ⟨g, cap, cur, hv, hB, hg, h3, h4, h5, h6⟩
 ·exact ⟨h.1, Or.inl ⟨h1, h2⟩⟩
 ·exact ⟨h.1, Or.inr ⟨g, cap, cur, hv, hB, (hk g cur hg).trans hg, h3, h4, h5, h6⟩⟩
theorem RefB.off {w w' : World} {Bq q : Nat} {b b' : Bk} {B : Nat} {x : Bl} (h : RefB w Bq q b) (hx : IsBk w B x b') (hf : Off x.all w w') : RefB w' Bq q b := by
 obtain ⟨ps, bs, hx⟩ := hx
 have key : ∀ {g : Nat} {c : Array Value} {T : TypeId}, w.heap[g]? = some (.cells c T (0, 0)) → T ≠ 96 → w'.heap[g]? = w.heap[g]? := fun {g c T} hg hT => by
  refine hf.block g (Array.getElem?_eq_some_iff.1 hg).1 fun e => ?_
  have hm : ∀ {k : Nat} {L : List Ent}, MapL Tryz.prog 9 w k L → g ≠ k := fun hM e9 => by
   obtain ⟨es, ck, hb, _⟩ := hM
   rw [← e9, hg] at hb
   cases hb
  unfold Bl.all at e
  simp at e
  rcases e with e | e | e | e | e
  ·rw [e, hx.blk] at hg
   injection hg with hg
   injection hg with _ h2 _
   exact hT h2.symm
  ·exact hm hx.G e
  ·exact hm hx.U e
  ·exact hm hx.L e
  ·exact hm hx.H e
 obtain ⟨vG, vL, vS, h1, h2, h3, h4, h5⟩ := h
 exact ⟨vG, vL, vS, (key h1 (by decide)).trans h1, h2.of_blocks fun g c hg => key hg (by decide), h3.of_blocks fun g c hg => key hg (by decide), h4.of_blocks fun g c hg => key hg (by decide), h5⟩
theorem IsBk.turn {w w' : World} {B B' : Nat} {x : Bl} {b : Bk} (h : IsBk w B x b) (ht : Turn B' w w') : IsBk w' B x b := by
 obtain ⟨ps, bs, h⟩ := h
 have hm : ∀ {k : Nat} {L : List Ent} {kt : TypeId}, MapL Tryz.prog kt w k L → w'.heap[k]? = w.heap[k]? := fun {k L kt} hM => by
  rcases ht.keeps k hM.lt with e | ⟨c, f, c', f', T, hT, e1, e2⟩
  ·exact e
  ·obtain ⟨es, ck, hb, _⟩ := hM
   rw [hb] at e1
   cases e1
 have hc : ∀ {k : Nat} {c : Array Value} {T : TypeId}, w.heap[k]? = some (.cells c T (0, 0)) → ¬ refT T → w'.heap[k]? = w.heap[k]? := fun {k c T} hk hT => by
  rcases ht.keeps k (Array.getElem?_eq_some_iff.1 hk).1 with e | ⟨c, f, c', f', T', hT', e1, e2⟩
  ·exact e
  ·rw [hk] at e1
   injection e1 with e1
   injection e1 with _ e5 _
   subst e5
   exact absurd hT' hT
 refine ⟨ps, bs, h.of_blocks fun k hk => ?_⟩
 rcases hk with rfl | rfl | rfl | rfl | rfl | rfl | rfl
 ·exact hc h.blk (by unfold refT; decide)
 ·exact hm h.G
 ·exact hm h.U
 ·exact hm h.L
 ·exact hm h.H
 ·exact hc h.sblk (by unfold refT; decide)
 ·exact hm h.S.map
structure Both (w W : World) (x : Bl) (Bq q : Nat) (b : Bk) : Prop where
 below : Below w.heap.size w W
 prog : IsBk W w.heap.size x b
 ref : RefB W Bq q b
 base : w.heap.size ≤ Bq
theorem Both.later {w W W' : World} {x : Bl} {Bq q : Nat} {b : Bk} (h : Both w W x Bq q b) (hb : Below W.heap.size W W') : Both w W' x Bq q b := ⟨h.below.trans (hb.mono h.below.size), h.prog.below hb, h.ref.below hb, h.base⟩
theorem bookOf_any (pp : Option Addr) (l : List En) (cap : Nat) (w : World) (s : Nat → Addr) (hs : Sent w s) (hh : Handle w) (hz : ∀ e ∈ l, SzE e) (hr : l = [] ∨ ∃ bq off, pp = some ⟨bq, off, none⟩ ∧ Ents w bq off l) (h100 : l.length ≤ 1000) :
  Calls Tryz.prog 11 #[.slice pp l.length cap] w fun e w' => ∃ x Bq q, e = .returned (.tuple #[.pointer (some ⟨x.p, 0, none⟩), .pointer (some ⟨q, 0, none⟩), .bool true]) ∧ Both w w' x Bq q (bkTo l l.length) := by
 have HN : Hid (Calls Tryz.prog 18 _ _ _) := bnew_any w
 have HS : Hid (∀ W, Below w.heap.size w W → Sent W s ∧ Handle W) := fun W hb => ⟨hs.below hb, hh.below hb⟩
 have HZ : Hid (∀ e ∈ l, SzE e) := hz
 have HR : Hid (∀ W k e, l[k]? = some e → Below w.heap.size w W → ∃ bq off, pp = some ⟨bq, off, none⟩ ∧ EntO W bq (off + k * 14) e) := fun W k e he hb => by
  rcases hr with rfl | ⟨bq, off, h1, h2⟩
  ·simp at he
  ·exact ⟨bq, off, h1, (h2.below h2.lt hb).at_ k e he⟩
 obtain ⟨ln, hln⟩ : ∃ ln, l.length = ln := ⟨_, rfl⟩
 have HL : Hid (ln = l.length) := hln.symm
 rw [hln] at h100 ⊢
 clear hs hh hz hr hln
 go_enter Tryz.func11, Tryz.ntmps11
 go_wp2_with (go_at_call 18; refine HN.out.mono ?_; rintro e w1 ⟨x, rfl, hI, hb1⟩; have HI : Hid (IsBk _ _ _ _) := hI; have HB1 : Hid (Below _ _ _) := hb1; clear hI hb1)
 have hb2 : Below w1.heap.size w1 (w1.alloc (.cells #[.slice none 0 0, .slice none 0 0, .slice none 0 0] 88)) := (Below.refl _ w1).alloc (Nat.le_refl _) _
 have n2 := heap_alloc_new w1 (.cells #[.slice none 0 0, .slice none 0 0, .slice none 0 0] 88)
 have HBo : Hid (Both w (w1.alloc (.cells #[.slice none 0 0, .slice none 0 0, .slice none 0 0] 88)) x w1.heap.size w1.heap.size (bkTo l 0)) := ⟨HB1.out.trans (hb2.mono HB1.out.size), HI.out.below hb2, ⟨_, _, _, n2, World.ownsRow_nil _ _ _ _, World.ownsRow_nil _ _ _ _, World.ownsRow_nil _ _ _ _, Nat.le_refl _⟩, HB1.out.size⟩
 clear hb2 n2
 generalize hU : w1.alloc (.cells #[.slice none 0 0, .slice none 0 0, .slice none 0 0] 88) = U at *
 clear hU
 generalize w1.heap.size = q at *
 clear HI HB1
 go_loopw [7] (fun i wr => ∃ k : Nat, k ≤ ln ∧ i = .int .i64 k ∧ Both w wr x q q (bkTo l k)) (fun i _ => ln - (RowKit.intOf i).toNat)
 case atStart => exact ⟨0, Nat.zero_le _, rfl, HBo.out⟩
 case round =>
  obtain ⟨k, hk, rfl, hBo⟩ := hrel
  have HBk : Hid (Both _ _ _ _ _ _) := hBo
  by_cases hlt : k < ln
  ·have hkm : k < l.length := by rw [← HL.out]; exact hlt
   obtain ⟨e, he⟩ : ∃ e, l[k]? = some e := ⟨_, List.getElem?_eq_getElem hkm⟩
   have hze := HZ.out e (List.mem_of_getElem? he)
   obtain ⟨bq, off, rfl, hE⟩ := HR.out wr.drew k e he hBo.below.drew
   have hBd : Both w wr.drew x q q (bkTo l k) := hBo.later (Below.refl _ _).drew
   have hD := bdo_any wr.drew s w.heap.size x (bkTo l k) e hBd.prog hze (HS.out _ hBd.below).1.bs
   have HD2 : Hid (∀ W, Below w.heap.size w W → IsBk W w.heap.size x (bkTo l (k + 1)) → RefB W q q (bkTo l k) → w.heap.size ≤ q → Calls Tryz.prog 40 #[.pointer (some ⟨q, 0, none⟩), agE e] W fun r w' => r = .returned (.int .i64 ((doB (bkTo l k) e).2 : Int)) ∧ Both w w' x q q (bkTo l (k + 1)) ∧ EntO w' bq (off + k * 14) e) := fun W hb h1 h2 h3 =>
    (refDo_any W q q (bkTo l k) e h2 hze (bkTo_ok l k).wf).mono fun r w' ⟨r1, r2, r3⟩ => by
     have hbw : Below w.heap.size w w' := hb.trans (r3.below.mono h3)
     obtain ⟨bq', off', e1, e2⟩ := HR.out w' k e he hbw
     cases e1
     exact ⟨r1, ⟨hbw, h1.turn r3, by rw [bkTo_succ he]; exact r2, h3⟩, e2⟩
   have HE : Hid (∀ W, Below w.heap.size w W → EntO W bq (off + k * 14) e) := fun W hb => by
    obtain ⟨bq', off', e1, e2⟩ := HR.out W k e he hb
    cases e1
    exact e2
   have HD1 : Hid (Calls Tryz.prog 13 #[.pointer (some ⟨x.p, 0, none⟩), agE e] wr.drew fun r w' => r = .returned (errP s (doB (bkTo l k) e).2) ∧ Below w.heap.size w w' ∧ IsBk w' w.heap.size x (bkTo l (k + 1)) ∧ RefB w' q q (bkTo l k)) := hD.mono fun r w' ⟨r1, r2, r3⟩ => ⟨r1, hBd.below.trans (r3.below hBd.below.size (fun k hk => (hBd.prog.low k hk).1)), by rw [bkTo_succ he]; exact r2, hBd.ref.off hBd.prog r3⟩
   have HCd : Hid (∀ W, Below w.heap.size w W → Calls Tryz.prog 39 #[errP s (doB (bkTo l k) e).2, .int .i64 ((doB (bkTo l k) e).2 : Int)] W fun r w' => r = .returned (.bool true) ∧ Below W.heap.size W w') := fun W hb => by
    have := codedP_any2 s (doB (bkTo l k) e).2 (doB_le _ _) ((doB (bkTo l k) e).2 : Int) W (HS.out W hb).1 (HS.out W hb).2
    simpa using this
   have Hq : Hid (w.heap.size ≤ q) := hBo.base
   generalize (doB (bkTo l k) e).2 = C at *
   obtain ⟨c0, c1, c2, c3, c4, c5, c6, c7, c8, c9, c10, c11, c12, c13⟩ := hE
   clear hD hze hkm hBo hBd he
   obtain ⟨ak, ⟨agc, agp⟩, ⟨ali, alc, alu, alk⟩, ⟨afz, afr, afb⟩, ⟨atz, atr, atb⟩, an⟩ := e
   unfold agE at *
   simp only at c0 c1 c2 c3 c4 c5 c6 c7 c8 c9 c10 c11 c12 c13 HD1 HD2 HE
   go_wp2
   go_region_held3 (fun w' => w'.cell? ⟨bq, off + k * 14, none⟩ = some (.string ak) ∧ w'.cell? ⟨bq, off + k * 14 + 1, none⟩ = some (.string agc) ∧ w'.cell? ⟨bq, off + k * 14 + 2, none⟩ = some (.int .i64 agp) ∧ w'.cell? ⟨bq, off + k * 14 + 3, none⟩ = some (.string ali) ∧ w'.cell? ⟨bq, off + k * 14 + 4, none⟩ = some (.string alc) ∧ w'.cell? ⟨bq, off + k * 14 + 5, none⟩ = some (.int .i64 alu) ∧ w'.cell? ⟨bq, off + k * 14 + 6, none⟩ = some (.int .i64 alk) ∧ w'.cell? ⟨bq, off + k * 14 + 7, none⟩ = some (.string afz) ∧ w'.cell? ⟨bq, off + k * 14 + 8, none⟩ = some (.int .i64 afr) ∧ w'.cell? ⟨bq, off + k * 14 + 9, none⟩ = some (.int .i64 afb) ∧ w'.cell? ⟨bq, off + k * 14 + 10, none⟩ = some (.string atz) ∧ w'.cell? ⟨bq, off + k * 14 + 11, none⟩ = some (.int .i64 atr) ∧ w'.cell? ⟨bq, off + k * 14 + 12, none⟩ = some (.int .i64 atb) ∧ w'.cell? ⟨bq, off + k * 14 + 13, none⟩ = some (.int .i64 an)) (go_keep) (first | (go_at_call 13; refine HD1.out.mono ?_; rintro r w3 ⟨rfl, hb3, hi3, hr3⟩; obtain ⟨d0, d1, d2, d3, d4, d5, d6, d7, d8, d9, d10, d11, d12, d13⟩ := HE.out _ hb3; (try simp only at d0 d1 d2 d3 d4 d5 d6 d7 d8 d9 d10 d11 d12 d13); have Hb3 : Hid (Below _ _ _) := hb3; have Hi3 : Hid (IsBk _ _ _ _) := hi3; have Hr3 : Hid (RefB _ _ _ _) := hr3; clear hb3 hi3 hr3) | (go_at_call 40; refine (HD2.out _ Hb3.out Hi3.out Hr3.out Hq.out).mono ?_; rintro r w4 ⟨rfl, hB4, hE4⟩; obtain ⟨f0, f1, f2, f3, f4, f5, f6, f7, f8, f9, f10, f11, f12, f13⟩ := hE4; (try simp only at f0 f1 f2 f3 f4 f5 f6 f7 f8 f9 f10 f11 f12 f13); have HB4 : Hid (Both _ _ _ _ _ _) := hB4; clear hB4) | (go_at_call 39; refine (HCd.out _ HB4.out.below).mono ?_; rintro r w5 ⟨rfl, hb5⟩; have hB5 := HB4.out.later hb5; obtain ⟨g0, g1, g2, g3, g4, g5, g6, g7, g8, g9, g10, g11, g12, g13⟩ := HE.out _ hB5.below; (try simp only at g0 g1 g2 g3 g4 g5 g6 g7 g8 g9 g10 g11 g12 g13); have HB5 : Hid (Both _ _ _ _ _ _) := hB5; clear hB5 hb5))
   go_wp2
   go_roundw
   case rel => exact ⟨k + 1, by omega, by go_num, HB5.out⟩
   case measure => simp [RowKit.intOf]; omega
  ·have hkn : k = ln := by omega
   subst hkn
   go_wp2
   exact bodyPost_ret (v := .tuple #[.pointer (some ⟨x.p, 0, none⟩), .pointer (some ⟨q, 0, none⟩), .bool true]) (by simp [results, Tryz.results11, go_sem]) rfl ⟨x, q, q, rfl, HBk.out⟩
end Go.Proofs.YteomomeigbfeoaaGreatDoor
