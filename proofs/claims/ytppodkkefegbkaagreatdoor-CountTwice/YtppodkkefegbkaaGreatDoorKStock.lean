/-
 A stock in memory: its map holds a line for each spot; what stock.New, numberWell, At, Of answer; nothing old is turned.
-/
import Derived.Test.YtppodkkefegbkaaGreatDoorJz1
import Derived.Test.YtppodkkefegbkaaGreatDoorKMath
import Derived.Test.YtppodkkefegbkaaGreatDoorJz5
import Derived.DeepKeys4
import Derived.BigRegion
import Derived.BigQuiet
import Derived.WalkKit
set_option maxRecDepth 100000
set_option maxHeartbeats 16000000
namespace Go.Proofs.YtppodkkefegbkaaGreatDoor
open Go.RowKit Go.Lib Go.Sort
open Go.Maps (Keyed)
abbrev agS (k : Sp) : Value := .agg #[.string k.1.1, .int .i64 k.1.2.1, .int .i64 k.1.2.2, .string k.2]
def entN (l : Ln) : Ent := (agS (keyL l), .int .i64 l.2.2)
structure KeyOk (k : Sp) : Prop where
 z : k.1.1.size ≤ maxLen
 r : (Lit.int .i64 k.1.2.1).wf = true
 b : (Lit.int .i64 k.1.2.2).wf = true
 c : k.2.size ≤ maxLen
theorem Tryz.laidOut : laidOutB Tryz.prog = true := by kernel_rfl
theorem Tryz.keyT : Tryz.prog.keyTypeAt 4 99 = true := by kernel_rfl
theorem Tryz.keyRow : 99 < Tryz.prog.types.size := of_decide_eq_true (by kernel_rfl)
theorem keyed : Keyed Tryz.prog 99 := Keyed.of_law (deep_law_laid Tryz.laidOut (m := 4) (by decide) Tryz.keyRow Tryz.keyT (by rw [Tryz.underlying99]))
theorem Tryz.keyTy : Tryz.prog.keyType 99 = true := by kernel_rfl
theorem Tryz.cellsSpot : Tryz.prog.cellsOf 99 = 4 := by kernel_rfl
theorem Tryz.cellsPl : Tryz.prog.cellsOf 41 = 3 := by kernel_rfl
theorem Tryz.cellsStr : Tryz.prog.cellsOf 9 = 1 := by kernel_rfl
theorem Tryz.cellsInt : Tryz.prog.cellsOf 3 = 1 := by kernel_rfl
theorem Tryz.typesN : ∃ n, Tryz.prog.types.size + 1 = n + 3 := ⟨Tryz.prog.types.size - 2, by have := Tryz.keyRow; omega⟩
theorem keyOf_spot {k : Sp} (h : KeyOk k) : ∃ l, keyOf Tryz.prog 99 (agS k) = some l := by
 obtain ⟨⟨a, r, b⟩, c⟩ := k
 obtain ⟨h1, h2, h3, h4⟩ := h
 simp only at h1 h2 h3 h4
 obtain ⟨n, hn⟩ := Tryz.typesN
 apply Option.isSome_iff_exists.1
 simp only [keyOf, Tryz.underlying99, Tryz.keyTy, Value.formed, Tryz.cellsSpot, hn]
 simp [Program.keyLits, Tryz.underlying99, Tryz.underlying41, Tryz.underlying9, Tryz.underlying3, Tryz.cellsSpot, Tryz.cellsPl, Tryz.cellsStr, Tryz.cellsInt, Value.cells, h1, h2, h3, h4]
 rw [if_pos]
 ·rfl
 ·intro i hi
  match i, hi with
  | 0, _ => simp
  | 1, _ => simp
  | 2, _ => simp
theorem agS_inj {k k' : Sp} (h : agS k = agS k') : k = k' := by
 obtain ⟨⟨a, r, b⟩, c⟩ := k
 obtain ⟨⟨a', r', b'⟩, c'⟩ := k'
 simp [agS] at h
 obtain ⟨rfl, rfl, rfl, rfl⟩ := h
 rfl
structure IsStock (w : World) (p b : Nat) (m : List Ln) : Prop where
 cell : w.cell? ⟨p, 0, none⟩ = some (.map (some b))
 map : MapL Tryz.prog 99 w b (m.map entN)
 wf : Wf m
theorem IsStock.lt {w : World} {p b : Nat} {m : List Ln} (h : IsStock w p b m) : p < w.heap.size ∧ b < w.heap.size := ⟨cell_lt h.cell, h.map.lt⟩
theorem IsStock.ne {w : World} {p b : Nat} {m : List Ln} (h : IsStock w p b m) : p ≠ b := h.map.ne_of_cells h.cell
theorem IsStock.below {w w' : World} {p b : Nat} {m : List Ln} {B : Nat} (h : IsStock w p b m) (hb : Below B w w') (h1 : p < B) (h2 : b < B) : IsStock w' p b m where
 cell := by rw [hb.cell (p := ⟨p, 0, none⟩) h1]; exact h.cell
 map := h.map.below hb h2
 wf := h.wf
theorem IsStock.all {w w' : World} {p b : Nat} {m : List Ln} (h : IsStock w p b m) (hb : Below w.heap.size w w') : IsStock w' p b m := h.below hb h.lt.1 h.lt.2
theorem IsStock.drew {w : World} {p b : Nat} {m : List Ln} (h : IsStock w p b m) (n : Nat) : IsStock (w.drewN n) p b m := h.all (below_drewN (Below.refl _ w) n)
theorem mem_ents {m : List Ln} {k : Sp} {v : Value} (h : (agS k, v) ∈ m.map entN) : ∃ l ∈ m, keyL l = k ∧ v = .int .i64 l.2.2 := by
 obtain ⟨l, hl, e⟩ := List.mem_map.1 h
 unfold entN at e
 simp only [Prod.mk.injEq] at e
 exact ⟨l, hl, agS_inj e.1, e.2.symm⟩
theorem ents_mem {m : List Ln} {l : Ln} (h : l ∈ m) : (agS (keyL l), Value.int .i64 l.2.2) ∈ m.map entN := List.mem_map.2 ⟨l, h, rfl⟩
theorem IsStock.look {w : World} {p b : Nat} {m : List Ln} (h : IsStock w p b m) {k : Sp} (hk : KeyOk k) : (Instr.lookup 95 (.map (some b)) (agS k) false).run Tryz.prog w = .ok (.int .i64 (atL m k)) w := by
 obtain ⟨kl, hkl⟩ := keyOf_spot hk
 by_cases h0 : atL m k = 0
 ·rw [h0]
  refine h.map.look_miss keyed Tryz.underlying95 hkl (Tryz.zeroValue3 w) fun v hv => ?_
  obtain ⟨l, hl, e, _⟩ := mem_ents hv
  exact (h.wf.at_zero k).1 h0 l hl e
 ·exact h.map.look_hit keyed Tryz.underlying95 hkl (ents_mem (mem_of_atL h0))
theorem IsStock.looks {w : World} {p b : Nat} {m : List Ln} (h : IsStock w p b m) {k : Sp} (hk : KeyOk k) : ∀ n, (Instr.lookup 95 (.map (some b)) (agS k) false).run Tryz.prog (w.drewN n) = .ok (.int .i64 (atL m k)) (w.drewN n) := fun n => (h.drew n).look hk
theorem IsStock.entry {w : World} {p b : Nat} {m : List Ln} (h : IsStock w p b m) {k : Sp} (hk : KeyOk k) :
  ∃ (st : Nat) (w2 : World), (Instr.mapEntry 95 (.map (some b)) (agS k)).run Tryz.prog w = .ok (.tuple #[.int .i64 (atL m k), .int .i64 st]) w2 ∧ (Instr.lookup 95 (.map (some b)) (agS k) false).run Tryz.prog w2 = .ok (.int .i64 (atL m k)) w2 ∧ w.mapTurned w2 b ∧
   ∀ n : Int, ∃ w3, (Instr.entryStore 95 (.map (some b)) (.int .i64 st) (.int .i64 n)).run Tryz.prog w2 = .ok () w3 ∧ MapL Tryz.prog 99 w3 b (((k.1, k.2, n) :: without m k).map entN) ∧ w.mapTurned w3 b := by
 obtain ⟨kl, hkl⟩ := keyOf_spot hk
 by_cases h0 : atL m k = 0
 ·have hne := (h.wf.at_zero k).1 h0
  obtain ⟨st, w2, e1, e2, e3, e4⟩ := h.map.entry_new keyed Tryz.underlying95 hkl Tryz.zeroValue3 (fun v hv => by
   obtain ⟨l, hl, e, _⟩ := mem_ents hv
   exact hne l hl e)
  rw [h0, without_same hne]
  exact ⟨st, w2, e1, e2, e3, fun n => e4 (.int .i64 n)⟩
 ·have hp := (without_perm h.wf.sorted.keys (mem_of_atL h0)).map entN
  obtain ⟨st, w2, e1, e2, e3, e4⟩ := h.map.entry_old keyed Tryz.underlying95 hkl hp
  exact ⟨st, w2, e1, e2, e3, fun n => e4 (.int .i64 n)⟩
theorem numWell_any (n : Int) (w : World) : Calls Tryz.prog 116 #[.int .i64 n] w fun e w' => e = .returned (.bool (numW n)) ∧ w' = w := by
 unfold numW
 by_cases h1 : 1 ≤ n
 ·by_cases h2 : n ≤ 1099511627776
  ·rw [decide_eq_true h1, decide_eq_true h2]
   go_enter Tryz.func116, Tryz.ntmps116
   go_wp2
   go_ret
   exact ⟨rfl, rfl⟩
  ·rw [decide_eq_true h1, decide_eq_false h2]
   go_enter Tryz.func116, Tryz.ntmps116
   go_wp2
   go_ret
   exact ⟨rfl, rfl⟩
 ·rw [decide_eq_false h1]
  go_enter Tryz.func116, Tryz.ntmps116
  go_wp2
  go_ret
  exact ⟨rfl, rfl⟩
theorem at_any (x : Pl) (c : ByteArray) (w : World) (p b : Nat) (m : List Ln) (h : IsStock w p b m) (hk : KeyOk (x, c)) :
  Calls Tryz.prog 13 #[.pointer (some ⟨p, 0, none⟩), agP x, .string c] w fun e w' => e = .returned (.int .i64 (atL m (x, c))) ∧ Below w.heap.size w w' := by
 have hB := (Below.refl w.heap.size w).alloc (Nat.le_refl _) (.cells #[.string x.1, .int .i64 x.2.1, .int .i64 x.2.2] 41)
 have h1 := (h.all hB)
 have hl := h1.looks hk
 have hc := h1.cell
 have HB : Hid (Below _ _ _) := hB
 clear hB h1 h hk
 obtain ⟨a, r, bb⟩ := x
 unfold agP agS at *
 simp only at *
 generalize atL m ((a, r, bb), c) = n at *
 go_enter Tryz.func13, Tryz.ntmps13
 go_wp2
 go_quiet (fail)
 go_wp2
 go_ret
 exact ⟨rfl, below_drewN HB.out _⟩
end Go.Proofs.YtppodkkefegbkaaGreatDoor
