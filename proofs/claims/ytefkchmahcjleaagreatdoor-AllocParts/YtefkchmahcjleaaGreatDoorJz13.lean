/-
 An entry in memory: its fourteen cells, a block of its own, what stays of it; the language's comparison of two entries.
-/
import Derived.Test.YtefkchmahcjleaaGreatDoorEMath
import Derived.Test.YtefkchmahcjleaaGreatDoorJz5
import Derived.Laws.IdiomRangeMap
import Derived.Lib.Builder
import Derived.Lib.SmallJoins
import Derived.Laws.StructEq
import Derived.RegionTactic
import Derived.Test.YtefkchmahcjleaaGreatDoorJz3
set_option maxRecDepth 100000
set_option maxHeartbeats 16000000
namespace Go.Proofs.YtefkchmahcjleaaGreatDoor
open Go.RowKit Go.Lib Go.Sort
abbrev agE (e : En) : Value := .agg #[.string e.1, .string e.2.1.1, .int .i64 e.2.1.2, .string e.2.2.1.1, .string e.2.2.1.2.1, .int .i64 e.2.2.1.2.2.1, .int .i64 e.2.2.1.2.2.2, .string e.2.2.2.1.1, .int .i64 e.2.2.2.1.2.1, .int .i64 e.2.2.2.1.2.2, .string e.2.2.2.2.1.1, .int .i64 e.2.2.2.2.1.2.1, .int .i64 e.2.2.2.2.1.2.2, .int .i64 e.2.2.2.2.2]
abbrev celE (e : En) : Obj := .cells #[.string e.1, .string e.2.1.1, .int .i64 e.2.1.2, .string e.2.2.1.1, .string e.2.2.1.2.1, .int .i64 e.2.2.1.2.2.1, .int .i64 e.2.2.1.2.2.2, .string e.2.2.2.1.1, .int .i64 e.2.2.2.1.2.1, .int .i64 e.2.2.2.1.2.2, .string e.2.2.2.2.1.1, .int .i64 e.2.2.2.2.1.2.1, .int .i64 e.2.2.2.2.1.2.2, .int .i64 e.2.2.2.2.2] 44
structure EntAt (w : World) (q : Nat) (e : En) : Prop where
 c0 : w.cell? ⟨q, 0, none⟩ = some (.string e.1)
 c1 : w.cell? ⟨q, 1, none⟩ = some (.string e.2.1.1)
 c2 : w.cell? ⟨q, 2, none⟩ = some (.int .i64 e.2.1.2)
 c3 : w.cell? ⟨q, 3, none⟩ = some (.string e.2.2.1.1)
 c4 : w.cell? ⟨q, 4, none⟩ = some (.string e.2.2.1.2.1)
 c5 : w.cell? ⟨q, 5, none⟩ = some (.int .i64 e.2.2.1.2.2.1)
 c6 : w.cell? ⟨q, 6, none⟩ = some (.int .i64 e.2.2.1.2.2.2)
 c7 : w.cell? ⟨q, 7, none⟩ = some (.string e.2.2.2.1.1)
 c8 : w.cell? ⟨q, 8, none⟩ = some (.int .i64 e.2.2.2.1.2.1)
 c9 : w.cell? ⟨q, 9, none⟩ = some (.int .i64 e.2.2.2.1.2.2)
 c10 : w.cell? ⟨q, 10, none⟩ = some (.string e.2.2.2.2.1.1)
 c11 : w.cell? ⟨q, 11, none⟩ = some (.int .i64 e.2.2.2.2.1.2.1)
 c12 : w.cell? ⟨q, 12, none⟩ = some (.int .i64 e.2.2.2.2.1.2.2)
 c13 : w.cell? ⟨q, 13, none⟩ = some (.int .i64 e.2.2.2.2.2)
theorem EntAt.of_block {w w' : World} {q : Nat} {e : En} (h : EntAt w q e) (hb : w'.heap[q]? = w.heap[q]?) : EntAt w' q e where
 c0 := (World.cell?_of_block (a := ⟨q, 0, none⟩) hb).trans h.c0
 c1 := (World.cell?_of_block (a := ⟨q, 1, none⟩) hb).trans h.c1
 c2 := (World.cell?_of_block (a := ⟨q, 2, none⟩) hb).trans h.c2
 c3 := (World.cell?_of_block (a := ⟨q, 3, none⟩) hb).trans h.c3
 c4 := (World.cell?_of_block (a := ⟨q, 4, none⟩) hb).trans h.c4
 c5 := (World.cell?_of_block (a := ⟨q, 5, none⟩) hb).trans h.c5
 c6 := (World.cell?_of_block (a := ⟨q, 6, none⟩) hb).trans h.c6
 c7 := (World.cell?_of_block (a := ⟨q, 7, none⟩) hb).trans h.c7
 c8 := (World.cell?_of_block (a := ⟨q, 8, none⟩) hb).trans h.c8
 c9 := (World.cell?_of_block (a := ⟨q, 9, none⟩) hb).trans h.c9
 c10 := (World.cell?_of_block (a := ⟨q, 10, none⟩) hb).trans h.c10
 c11 := (World.cell?_of_block (a := ⟨q, 11, none⟩) hb).trans h.c11
 c12 := (World.cell?_of_block (a := ⟨q, 12, none⟩) hb).trans h.c12
 c13 := (World.cell?_of_block (a := ⟨q, 13, none⟩) hb).trans h.c13
theorem EntAt.lt {w : World} {q : Nat} {e : En} (h : EntAt w q e) : q < w.heap.size := cell_lt h.c0
theorem EntAt.below {w w' : World} {q : Nat} {e : En} (h : EntAt w q e) (hb : Below w.heap.size w w') : EntAt w' q e := h.of_block (hb.block q h.lt)
def BlkE (w : World) (q : Nat) (e : En) : Prop := w.heap[q]? = some (.cells #[.string e.1, .string e.2.1.1, .int .i64 e.2.1.2, .string e.2.2.1.1, .string e.2.2.1.2.1, .int .i64 e.2.2.1.2.2.1, .int .i64 e.2.2.1.2.2.2, .string e.2.2.2.1.1, .int .i64 e.2.2.2.1.2.1, .int .i64 e.2.2.2.1.2.2, .string e.2.2.2.2.1.1, .int .i64 e.2.2.2.2.1.2.1, .int .i64 e.2.2.2.2.1.2.2, .int .i64 e.2.2.2.2.2] 44 (0, 0))
theorem BlkE.at {w : World} {q : Nat} {e : En} (h : BlkE w q e) : EntAt w q e where
 c0 := by rw [cell_of_heap h]; rfl
 c1 := by rw [cell_of_heap h]; rfl
 c2 := by rw [cell_of_heap h]; rfl
 c3 := by rw [cell_of_heap h]; rfl
 c4 := by rw [cell_of_heap h]; rfl
 c5 := by rw [cell_of_heap h]; rfl
 c6 := by rw [cell_of_heap h]; rfl
 c7 := by rw [cell_of_heap h]; rfl
 c8 := by rw [cell_of_heap h]; rfl
 c9 := by rw [cell_of_heap h]; rfl
 c10 := by rw [cell_of_heap h]; rfl
 c11 := by rw [cell_of_heap h]; rfl
 c12 := by rw [cell_of_heap h]; rfl
 c13 := by rw [cell_of_heap h]; rfl
theorem BlkE.frozen {w : World} {q : Nat} {e : En} (h : BlkE w q e) (o : Nat) : w.frozen? ⟨q, o, none⟩ = false := frozen_of_heap h o
theorem BlkE.lt {w : World} {q : Nat} {e : En} (h : BlkE w q e) : q < w.heap.size := h.at.lt
theorem BlkE.below {w w' : World} {q : Nat} {e : En} (h : BlkE w q e) (hb : Below w.heap.size w w') : BlkE w' q e := (hb.block q h.lt).trans h
theorem BlkE.new (w : World) (e : En) : BlkE (w.alloc (celE e)) w.heap.size e := heap_alloc_new w _
theorem set_cell {w : World} {q : Nat} {cs cs' : Array Value} {T : TypeId} (h : w.heap[q]? = some (.cells cs T (0, 0))) (i : Nat) (v : Value) (e : cs.setIfInBounds i v = cs') : (w.setCell ⟨q, i, none⟩ v).heap[q]? = some (.cells cs' T (0, 0)) := by
 rw [← e]; exact Joins.block_setCell h v
theorem Tryz.guardE : Tryz.prog.eqGuardType Tryz.prog.depth 44 = false := by kernel_rfl
theorem eqPl9 (x y : Pl) (w : World) : (Op.equalIn 9999 42 (.agg #[.string x.1, .int .i64 x.2.1, .int .i64 x.2.2]) (.agg #[.string y.1, .int .i64 y.2.1, .int .i64 y.2.2])).run Tryz.prog w = .ok (decide (x = y)) w := by
 obtain ⟨a, r, b⟩ := x
 obtain ⟨a', r', b'⟩ := y
 have u3 := Tryz.underlying3
 have a3 := Tryz.isAgg3
 have z3 := Tryz.sizeOf3
 have u9 := Tryz.underlying9
 have a9 := Tryz.isAgg9
 have z9 := Tryz.sizeOf9
 have hS : Tryz.prog.underlying 42 = some (.struct (Tryz.prog.fieldsOf 42)) := by kernel_rfl
 have hp : Tryz.prog.stoodInHeld 42 = false := by kernel_rfl
 rw [show (9999 : Nat) = 9998 + 1 from rfl, run_equalIn_agg w 9998 42 _ _ hS hp]
 simp only [Program.fieldsOf, Tryz.underlying42]
 have e3 := same_eq a a'
 go_simp
 by_cases h1 : a = a' <;> by_cases h2 : r = r' <;> by_cases h3 : b = b' <;> simp [h1, h2, h3]
theorem eqG9 (x y : Gd) (w : World) : (Op.equalIn 9999 38 (.agg #[.string x.1, .int .i64 x.2]) (.agg #[.string y.1, .int .i64 y.2])).run Tryz.prog w = .ok (decide (x = y)) w := by
 obtain ⟨a, r⟩ := x
 obtain ⟨a', r'⟩ := y
 have u3 := Tryz.underlying3
 have a3 := Tryz.isAgg3
 have z3 := Tryz.sizeOf3
 have u9 := Tryz.underlying9
 have a9 := Tryz.isAgg9
 have z9 := Tryz.sizeOf9
 have hS : Tryz.prog.underlying 38 = some (.struct (Tryz.prog.fieldsOf 38)) := by kernel_rfl
 have hp : Tryz.prog.stoodInHeld 38 = false := by kernel_rfl
 rw [show (9999 : Nat) = 9998 + 1 from rfl, run_equalIn_agg w 9998 38 _ _ hS hp]
 simp only [Program.fieldsOf, Tryz.underlying38]
 have e3 := same_eq a a'
 go_simp
 by_cases h1 : a = a' <;> by_cases h2 : r = r' <;> simp [h1, h2]
theorem eqL9 (x y : Lo) (w : World) : (Op.equalIn 9999 40 (.agg #[.string x.1, .string x.2.1, .int .i64 x.2.2.1, .int .i64 x.2.2.2]) (.agg #[.string y.1, .string y.2.1, .int .i64 y.2.2.1, .int .i64 y.2.2.2])).run Tryz.prog w = .ok (decide (x = y)) w := by
 obtain ⟨a, r, b, c⟩ := x
 obtain ⟨a', r', b', c'⟩ := y
 have u3 := Tryz.underlying3
 have a3 := Tryz.isAgg3
 have z3 := Tryz.sizeOf3
 have u9 := Tryz.underlying9
 have a9 := Tryz.isAgg9
 have z9 := Tryz.sizeOf9
 have hS : Tryz.prog.underlying 40 = some (.struct (Tryz.prog.fieldsOf 40)) := by kernel_rfl
 have hp : Tryz.prog.stoodInHeld 40 = false := by kernel_rfl
 rw [show (9999 : Nat) = 9998 + 1 from rfl, run_equalIn_agg w 9998 40 _ _ hS hp]
 simp only [Program.fieldsOf, Tryz.underlying40]
 have e3 := same_eq a a'
 have e4 := same_eq r r'
 go_simp
 by_cases h1 : a = a' <;> by_cases h2 : r = r' <;> by_cases h3 : b = b' <;> by_cases h4 : c = c' <;> simp [h1, h2, h3, h4]
theorem eqE_run (x y : En) (w : World) : (Op.equalIn 10000 44 (agE x) (agE y)).run Tryz.prog w = .ok (sameE x y) w := by
 have hG := eqG9 x.2.1 y.2.1
 have hL := eqL9 x.2.2.1 y.2.2.1
 have hP := eqPl9 x.2.2.2.1 y.2.2.2.1
 have hQ := eqPl9 x.2.2.2.2.1 y.2.2.2.2.1
 have HE : Hid (sameE x y = (decide (x.1 = y.1) && (decide (x.2.1 = y.2.1) && (decide (x.2.2.1 = y.2.2.1) && (decide (x.2.2.2.1 = y.2.2.2.1) && (decide (x.2.2.2.2.1 = y.2.2.2.2.1) && decide (x.2.2.2.2.2 = y.2.2.2.2.2))))))) := rfl
 have e3 := same_eq x.1 y.1
 generalize sameE x y = D at *
 generalize decide (x.1 = y.1) = D1 at *
 generalize decide (x.2.1 = y.2.1) = D2 at *
 generalize decide (x.2.2.1 = y.2.2.1) = D3 at *
 generalize decide (x.2.2.2.1 = y.2.2.2.1) = D4 at *
 generalize decide (x.2.2.2.2.1 = y.2.2.2.2.1) = D5 at *
 have h6 : (x.2.2.2.2.2 == y.2.2.2.2.2) = decide (x.2.2.2.2.2 = y.2.2.2.2.2) := rfl
 generalize hD6 : decide (x.2.2.2.2.2 = y.2.2.2.2.2) = D6 at *
 clear hD6
 obtain ⟨k, ⟨gc, gp⟩, ⟨li, lc, lu, lk⟩, ⟨fz, fr, fb⟩, ⟨tz, tr, tb⟩, n⟩ := x
 obtain ⟨k', ⟨gc', gp'⟩, ⟨li', lc', lu', lk'⟩, ⟨fz', fr', fb'⟩, ⟨tz', tr', tb'⟩, n'⟩ := y
 unfold agE
 simp only at hG hL hP hQ e3 h6 ⊢
 have u3 := Tryz.underlying3
 have a3 := Tryz.isAgg3
 have z3 := Tryz.sizeOf3
 have u9 := Tryz.underlying9
 have a9 := Tryz.isAgg9
 have z9 := Tryz.sizeOf9
 have a41 := Tryz.isAgg42
 have z41 := Tryz.sizeOf42
 have a55 := Tryz.isAgg38
 have z55 := Tryz.sizeOf38
 have a57 := Tryz.isAgg40
 have z57 := Tryz.sizeOf40
 have hS : Tryz.prog.underlying 44 = some (.struct (Tryz.prog.fieldsOf 44)) := by kernel_rfl
 have hp : Tryz.prog.stoodInHeld 44 = false := by kernel_rfl
 rw [show (10000 : Nat) = 9999 + 1 from rfl, run_equalIn_agg w 9999 44 _ _ hS hp]
 simp only [Program.fieldsOf, Tryz.underlying44]
 rw [HE.out]
 clear HE
 cases D1 <;> cases D2 <;> cases D3 <;> cases D4 <;> cases D5 <;> cases D6 <;> go_simp
theorem places_to (k : ByteArray) (q : Nat) (w : World) (hk : k = kIn ∨ k = kMore) (h0 : w.cell? ⟨q, 0, none⟩ = some (.string k)) :
  Calls Tryz.prog 108 #[.pointer (some ⟨q, 0, none⟩)] w fun e w' => e = .returned (.tuple #[.slice (some ⟨w.heap.size, 0, none⟩) 1 1, .bool true]) ∧ w' = w.alloc (.cells #[.pointer (some ⟨q, 10, none⟩)] 180) := by
 rcases hk with rfl | rfl
 all_goals
  go_enter Tryz.func108, Tryz.ntmps108
  go_wp2
  go_ret2
  exact ⟨rfl, rfl⟩
theorem places_from (k : ByteArray) (q : Nat) (w : World) (hk : k = kOut ∨ k = kLess) (h0 : w.cell? ⟨q, 0, none⟩ = some (.string k)) :
  Calls Tryz.prog 108 #[.pointer (some ⟨q, 0, none⟩)] w fun e w' => e = .returned (.tuple #[.slice (some ⟨w.heap.size, 0, none⟩) 1 1, .bool true]) ∧ w' = w.alloc (.cells #[.pointer (some ⟨q, 7, none⟩)] 180) := by
 rcases hk with rfl | rfl
 all_goals
  go_enter Tryz.func108, Tryz.ntmps108
  go_wp2
  go_ret2
  exact ⟨rfl, rfl⟩
theorem places_move (q : Nat) (w : World) (h0 : w.cell? ⟨q, 0, none⟩ = some (.string kMove)) :
  Calls Tryz.prog 108 #[.pointer (some ⟨q, 0, none⟩)] w fun e w' => e = .returned (.tuple #[.slice (some ⟨w.heap.size, 0, none⟩) 2 2, .bool true]) ∧ w' = (w.alloc (.cells #[.pointer (some ⟨q, 7, none⟩), .pointer (some ⟨q, 10, none⟩)] 180)).drew := by
 go_enter Tryz.func108, Tryz.ntmps108
 go_wp2
 go_region
 go_wp2
 go_ret2
 exact ⟨rfl, rfl⟩
theorem places_hold (k : ByteArray) (q : Nat) (w : World) (hk : k = kHold ∨ k = kFree) (h0 : w.cell? ⟨q, 0, none⟩ = some (.string k)) :
  Calls Tryz.prog 108 #[.pointer (some ⟨q, 0, none⟩)] w fun e w' => e = .returned (.tuple #[.slice none 0 0, .bool true]) ∧ w' = w := by
 rcases hk with rfl | rfl
 all_goals
  go_enter Tryz.func108, Tryz.ntmps108
  go_wp2
  go_ret2
  exact ⟨rfl, rfl⟩
theorem other_word {k z : ByteArray} (h : k ≠ z) : (k.toList == z.data.toList) = false := by
 have := same_eq k z
 rw [decide_eq_false h, Lib.toList_data z] at this
 exact this
theorem places_other (k : ByteArray) (q : Nat) (w : World) (hk : NoKind k) (h0 : w.cell? ⟨q, 0, none⟩ = some (.string k)) :
  Calls Tryz.prog 108 #[.pointer (some ⟨q, 0, none⟩)] w fun e w' => e = .returned (.tuple #[.slice none 0 0, .bool false]) ∧ w' = w := by
 have e3 := other_word hk.in_
 have e4 := other_word hk.more
 have e5 := other_word hk.out
 have e6 := other_word hk.less
 have e7 := other_word hk.move
 have e8 := other_word hk.hold
 have e9 := other_word hk.free
 simp only at e3 e4 e5 e6 e7 e8 e9
 clear hk
 go_enter Tryz.func108, Tryz.ntmps108
 go_wp2
 go_ret2
 exact ⟨rfl, rfl⟩
theorem packE_yes (p : Int) (w : World) (h1 : 1 ≤ p) (h2 : p ≤ 1000) : Calls Tryz.prog 132 #[.int .i64 p] w fun e w' => e = .returned (.bool true) ∧ w' = w := by
 go_enter Tryz.func132, Tryz.ntmps132
 go_wp2
 go_ret
 exact ⟨rfl, rfl⟩
theorem packE_no (p : Int) (w : World) (h : pw p = false) : Calls Tryz.prog 132 #[.int .i64 p] w fun e w' => e = .returned (.bool false) ∧ w' = w := by
 have h' : p < 1 ∨ (1 ≤ p ∧ 1000 < p) := by unfold pw at h; simp at h; omega
 clear h
 rcases h' with h | ⟨h, h'⟩
 ·go_enter Tryz.func132, Tryz.ntmps132
  go_wp2
  go_ret
  exact ⟨rfl, rfl⟩
 ·go_enter Tryz.func132, Tryz.ntmps132
  go_wp2
  go_ret
  exact ⟨by simp [show ¬ p ≤ 1000 by omega], rfl⟩
theorem gcheck_any (g : Gd) (w : World) (s : Nat → Addr) (hz : g.1.size ≤ maxLen) (hs : Two w s) :
  Calls Tryz.prog 105 #[.agg #[.string g.1, .int .i64 g.2]] w fun e w' => e = .returned (errP s (gdErr g)) ∧ Below w.heap.size w w' := by
 obtain ⟨x, pack⟩ := g
 simp only at hz ⊢
 have hs2 : Two (w.alloc (.cells #[.string x, .int .i64 pack] 38)) s := hs.below ((Below.refl _ _).alloc (Nat.le_refl _) _)
 obtain ⟨hB, hN⟩ := hs2
 have hn : ∀ w, Calls Tryz.prog 131 #[.string x] w _ := fun w => name_any x w hz
 cases h1 : isName x.data.toList with
 | false =>
  rw [h1] at hn
  have HE : Hid (errP s (gdErr (x, pack)) = err (s 4)) := by
   show _ = _
   unfold gdErr; simp only [h1]; rfl
  clear hs
  go_enter Tryz.func105, Tryz.ntmps105
  go_wp2_with (go_at_call 131; refine (hn _).mono ?_; rintro e w1 ⟨rfl, rfl⟩)
  go_ret
  exact ⟨by rw [HE.out]; rfl, (Below.refl _ _).alloc (Nat.le_refl _) _⟩
 | true =>
  rw [h1] at hn
  cases h2 : pw pack with
  | false =>
   have HE : Hid (errP s (gdErr (x, pack)) = err (s 1)) := by
    show _ = _
    unfold gdErr; simp only [h1, h2]; rfl
   have hc := fun w => packE_no pack w h2
   clear hs
   go_enter Tryz.func105, Tryz.ntmps105
   go_wp2_with (first | (go_at_call 131; refine (hn _).mono ?_; rintro e w1 ⟨rfl, rfl⟩) | (go_at_call 132; refine (hc _).mono ?_; rintro e w1 ⟨rfl, rfl⟩))
   go_ret
   exact ⟨by rw [HE.out]; rfl, (Below.refl _ _).alloc (Nat.le_refl _) _⟩
  | true =>
   have HE : Hid (errP s (gdErr (x, pack)) = .nilIface) := by
    show _ = _
    unfold gdErr; simp only [h1, h2]; rfl
   have h : 1 ≤ pack ∧ pack ≤ 1000 := by unfold pw at h2; simpa using h2
   have hc := fun w => packE_yes pack w h.1 h.2
   clear hs
   go_enter Tryz.func105, Tryz.ntmps105
   go_wp2_with (first | (go_at_call 131; refine (hn _).mono ?_; rintro e w1 ⟨rfl, rfl⟩) | (go_at_call 132; refine (hc _).mono ?_; rintro e w1 ⟨rfl, rfl⟩))
   go_ret
   exact ⟨by rw [HE.out]; rfl, (Below.refl _ _).alloc (Nat.le_refl _) _⟩
structure Es (w : World) (s : Nat → Addr) : Prop where
 three : Three w s
 shape : w.cell? ⟨0, 0, none⟩ = some (err (s 2))
 kind : w.cell? ⟨7, 0, none⟩ = some (err (s 3))
theorem Es.below {w w' : World} {s : Nat → Addr} (h : Es w s) (hb : Below w.heap.size w w') : Es w' s where
 three := h.three.below hb
 shape := by rw [hb.cell (p := ⟨0, 0, none⟩) (cell_lt h.shape)]; exact h.shape
 kind := by rw [hb.cell (p := ⟨7, 0, none⟩) (cell_lt h.kind)]; exact h.kind
theorem Sent.es {w : World} {s : Nat → Addr} (h : Sent w s) : Es w s := ⟨h.three, h.cell 2 (by decide), h.cell 3 (by decide)⟩
structure Ec (w : World) (s : Nat → Addr) : Prop where
 two : Two w s
 shape : w.cell? ⟨0, 0, none⟩ = some (err (s 2))
 kind : w.cell? ⟨7, 0, none⟩ = some (err (s 3))
theorem Ec.below {w w' : World} {s : Nat → Addr} (h : Ec w s) (hb : Below w.heap.size w w') : Ec w' s where
 two := h.two.below hb
 shape := by rw [hb.cell (p := ⟨0, 0, none⟩) (cell_lt h.shape)]; exact h.shape
 kind := by rw [hb.cell (p := ⟨7, 0, none⟩) (cell_lt h.kind)]; exact h.kind
theorem Es.ec {w : World} {s : Nat → Addr} (h : Es w s) : Ec w s := ⟨h.three.two, h.shape, h.kind⟩
structure SzE (e : En) : Prop where
 k : e.1.size ≤ maxLen
 gc : e.2.1.1.size ≤ maxLen
 li : e.2.2.1.1.size ≤ maxLen
 lc : e.2.2.1.2.1.size ≤ maxLen
 fz : e.2.2.2.1.1.size ≤ maxLen
 tz : e.2.2.2.2.1.1.size ≤ maxLen
theorem Tryz.guardPl : Tryz.prog.eqGuardType Tryz.prog.depth 42 = false := by kernel_rfl
theorem eqPl10 (x y : Pl) (w : World) : (Op.equalIn 10000 42 (.agg #[.string x.1, .int .i64 x.2.1, .int .i64 x.2.2]) (.agg #[.string y.1, .int .i64 y.2.1, .int .i64 y.2.2])).run Tryz.prog w = .ok (decide (x = y)) w := by
 obtain ⟨a, r, b⟩ := x
 obtain ⟨a', r', b'⟩ := y
 have u3 := Tryz.underlying3
 have a3 := Tryz.isAgg3
 have z3 := Tryz.sizeOf3
 have u9 := Tryz.underlying9
 have a9 := Tryz.isAgg9
 have z9 := Tryz.sizeOf9
 have hS : Tryz.prog.underlying 42 = some (.struct (Tryz.prog.fieldsOf 42)) := by kernel_rfl
 have hp : Tryz.prog.stoodInHeld 42 = false := by kernel_rfl
 rw [show (10000 : Nat) = 9999 + 1 from rfl, run_equalIn_agg w 9999 42 _ _ hS hp]
 simp only [Program.fieldsOf, Tryz.underlying42]
 have e3 := same_eq a a'
 go_simp
 by_cases h1 : a = a' <;> by_cases h2 : r = r' <;> by_cases h3 : b = b' <;> simp [h1, h2, h3]
theorem cp_other (e : En) (w : World) (s : Nat → Addr) (hk : NoKind e.1) (hs : Ec w s) :
  Calls Tryz.prog 107 #[agE e] w fun r w' => r = .returned (err (s 3)) ∧ Below w.heap.size w w' := by
 have hB : Below w.heap.size w (w.alloc (celE e)) := (Below.refl _ w).alloc (Nat.le_refl _) _
 have hPl := places_other e.1 w.heap.size (w.alloc (celE e)) hk (BlkE.new w e).at.c0
 have hkd := (hs.below hB).kind
 clear hs hk
 obtain ⟨k, ⟨gc, gp⟩, ⟨li, lc, lu, lk⟩, ⟨fz, fr, fb⟩, ⟨tz, tr, tb⟩, n⟩ := e
 unfold agE celE at *
 simp only at *
 have HP : Hid (Calls Tryz.prog 108 _ _ _) := hPl
 clear hPl
 go_enter Tryz.func107, Tryz.ntmps107
 go_wp2_with (go_at_call 108; refine HP.out.mono ?_; rintro e w1 ⟨rfl, rfl⟩)
 go_ret
 exact ⟨rfl, hB⟩
theorem cp_to (e : En) (w : World) (s : Nat → Addr) (hk : e.1 = kIn ∨ e.1 = kMore) (hz : SzE e) (hs : Ec w s) :
  Calls Tryz.prog 107 #[agE e] w fun r w' => r = .returned (errP s (pieceErr .tow e)) ∧ Below w.heap.size w w' := by
 have hB : Below w.heap.size w (w.alloc (celE e)) := (Below.refl _ w).alloc (Nat.le_refl _) _
 have hE := BlkE.new w e
 have hPl := places_to e.1 w.heap.size (w.alloc (celE e)) hk hE.at.c0
 have hN : ∀ w, Calls Tryz.prog 131 #[.string e.2.2.1.1] w _ := fun w => name_any e.2.2.1.1 w hz.li
 have hT := fun w1 (hb : Below w.heap.size w w1) => pcheck_any e.2.2.2.2.1 w1 s hz.tz (hs.two.below hb)
 have HS : Hid (∀ w1, Below w.heap.size w w1 → Ec w1 s) := fun w1 hb => hs.below hb
 clear hz hs
 obtain ⟨k, ⟨gc, gp⟩, ⟨li, lc, lu, lk⟩, ⟨fz, fr, fb⟩, ⟨tz, tr, tb⟩, n⟩ := e
 have hsz : w.heap.size < (w.alloc (celE (k, (gc, gp), (li, lc, lu, lk), (fz, fr, fb), (tz, tr, tb), n))).heap.size := by simp
 unfold agE celE at *
 unfold agP at *
 simp only at *
 have hmv : (k.toList == (⟨#[109, 111, 118, 101]⟩ : ByteArray).data.toList) = false := other_word (by rcases hk with rfl | rfl <;> decide)
 simp only at hmv
 have hB01 : Below (w.alloc (.cells #[.string k, .string gc, .int .i64 gp, .string li, .string lc, .int .i64 lu, .int .i64 lk, .string fz, .int .i64 fr, .int .i64 fb, .string tz, .int .i64 tr, .int .i64 tb, .int .i64 n] 44)).heap.size (w.alloc (.cells #[.string k, .string gc, .int .i64 gp, .string li, .string lc, .int .i64 lu, .int .i64 lk, .string fz, .int .i64 fr, .int .i64 fb, .string tz, .int .i64 tr, .int .i64 tb, .int .i64 n] 44)) ((w.alloc (.cells #[.string k, .string gc, .int .i64 gp, .string li, .string lc, .int .i64 lu, .int .i64 lk, .string fz, .int .i64 fr, .int .i64 fb, .string tz, .int .i64 tr, .int .i64 tb, .int .i64 n] 44)).alloc (.cells #[.pointer (some ⟨w.heap.size, 10, none⟩)] 180)) := (Below.refl _ _).alloc (Nat.le_refl _) _
 have hE1 := hE.below hB01
 have hB1 : Below w.heap.size w ((w.alloc (.cells #[.string k, .string gc, .int .i64 gp, .string li, .string lc, .int .i64 lu, .int .i64 lk, .string fz, .int .i64 fr, .int .i64 fb, .string tz, .int .i64 tr, .int .i64 tb, .int .i64 n] 44)).alloc (.cells #[.pointer (some ⟨w.heap.size, 10, none⟩)] 180)) := hB.trans (hB01.mono hB.size)
 have hS1 := HS.out _ hB1
 have hkd := hS1.two.name
 have hbd := hS1.two.bound
 have hsh := hS1.shape
 obtain ⟨a0, a1, a2, a3, a4, a5, a6, a7, a8, a9, a10, a11, a12, a13⟩ := hE1.at
 simp only at a0 a1 a2 a3 a4 a5 a6 a7 a8 a9 a10 a11 a12 a13
 have HP : Hid (Calls Tryz.prog 108 _ _ _) := hPl
 clear hPl hE hB hB01 hk
 cases h1 : isName li.data.toList with
 | false =>
  rw [h1] at hN
  have HE : Hid (errP s (pieceErr .tow (k, (gc, gp), (li, lc, lu, lk), (fz, fr, fb), (tz, tr, tb), n)) = err (s 4)) := by
   show _ = _
   unfold pieceErr fromErr toErr numErr kFrom kTo; simp only [h1, Bool.false_eq_true, if_false]
   (try rfl)
  go_enter Tryz.func107, Tryz.ntmps107
  go_wp2_with (first | (go_at_call 108; refine HP.out.mono ?_; rintro e w1 ⟨rfl, rfl⟩) | (go_at_call 131; refine (hN _).mono ?_; rintro e w2 ⟨rfl, rfl⟩))
  go_ret
  exact ⟨by rw [HE.out]; rfl, hB1⟩
 | true =>
  rw [h1] at hN
  by_cases h2 : placeErr (tz, tr, tb) = 0
  ·rw [h2, errP_zero] at hT
   rcases (by omega : n < 1 ∨ (1 ≤ n ∧ 1099511627776 < n) ∨ (1 ≤ n ∧ n ≤ 1099511627776)) with q1 | ⟨q1, q2⟩ | ⟨q1, q2⟩
   ·have h5 : numW n = false := by unfold numW; simp; omega
    have HE : Hid (errP s (pieceErr .tow (k, (gc, gp), (li, lc, lu, lk), (fz, fr, fb), (tz, tr, tb), n)) = err (s 1)) := by
     show _ = _
     unfold pieceErr fromErr toErr numErr kFrom kTo; simp only [h1, h2, h5, Bool.false_eq_true, if_false, if_true]
     (try rfl)
    clear h5
    go_enter Tryz.func107, Tryz.ntmps107
    go_wp2_with (first | (go_at_call 108; refine HP.out.mono ?_; rintro e w1 ⟨rfl, rfl⟩) | (go_at_call 131; refine (hN _).mono ?_; rintro e w2 ⟨rfl, rfl⟩))
    refine wp_loop_rounds 2 ?_
    rw [rounds_succ]
    go_wp2_with (first | (go_at_call_of 133 (Value.agg #[.string tz, .int .i64 tr, .int .i64 tb]); refine (hT _ hB1).mono ?_; rintro e w3 ⟨rfl, hb3⟩; have hBl := hB1.trans (hb3.mono hB1.size); obtain ⟨c0, c1, c2, c3, c4, c5, c6, c7, c8, c9, c10, c11, c12, c13⟩ := (hE1.below hb3).at; simp only at c0 c1 c2 c3 c4 c5 c6 c7 c8 c9 c10 c11 c12 c13; have hS3 := HS.out _ hBl; have hbd3 := hS3.two.bound; have hsh3 := hS3.shape))
    rw [rounds_succ]
    go_wp2_with (first | (go_at_call_of 133 (Value.agg #[.string tz, .int .i64 tr, .int .i64 tb]); refine (hT _ hB1).mono ?_; rintro e w3 ⟨rfl, hb3⟩; have hBl := hB1.trans (hb3.mono hB1.size); obtain ⟨c0, c1, c2, c3, c4, c5, c6, c7, c8, c9, c10, c11, c12, c13⟩ := (hE1.below hb3).at; simp only at c0 c1 c2 c3 c4 c5 c6 c7 c8 c9 c10 c11 c12 c13; have hS3 := HS.out _ hBl; have hbd3 := hS3.two.bound; have hsh3 := hS3.shape))
    go_ret
    exact ⟨by rw [HE.out]; rfl, hBl⟩
   ·have h5 : numW n = false := by unfold numW; simp; omega
    have HE : Hid (errP s (pieceErr .tow (k, (gc, gp), (li, lc, lu, lk), (fz, fr, fb), (tz, tr, tb), n)) = err (s 1)) := by
     show _ = _
     unfold pieceErr fromErr toErr numErr kFrom kTo; simp only [h1, h2, h5, Bool.false_eq_true, if_false, if_true]
     (try rfl)
    clear h5
    go_enter Tryz.func107, Tryz.ntmps107
    go_wp2_with (first | (go_at_call 108; refine HP.out.mono ?_; rintro e w1 ⟨rfl, rfl⟩) | (go_at_call 131; refine (hN _).mono ?_; rintro e w2 ⟨rfl, rfl⟩))
    refine wp_loop_rounds 2 ?_
    rw [rounds_succ]
    go_wp2_with (first | (go_at_call_of 133 (Value.agg #[.string tz, .int .i64 tr, .int .i64 tb]); refine (hT _ hB1).mono ?_; rintro e w3 ⟨rfl, hb3⟩; have hBl := hB1.trans (hb3.mono hB1.size); obtain ⟨c0, c1, c2, c3, c4, c5, c6, c7, c8, c9, c10, c11, c12, c13⟩ := (hE1.below hb3).at; simp only at c0 c1 c2 c3 c4 c5 c6 c7 c8 c9 c10 c11 c12 c13; have hS3 := HS.out _ hBl; have hbd3 := hS3.two.bound; have hsh3 := hS3.shape))
    rw [rounds_succ]
    go_wp2_with (first | (go_at_call_of 133 (Value.agg #[.string tz, .int .i64 tr, .int .i64 tb]); refine (hT _ hB1).mono ?_; rintro e w3 ⟨rfl, hb3⟩; have hBl := hB1.trans (hb3.mono hB1.size); obtain ⟨c0, c1, c2, c3, c4, c5, c6, c7, c8, c9, c10, c11, c12, c13⟩ := (hE1.below hb3).at; simp only at c0 c1 c2 c3 c4 c5 c6 c7 c8 c9 c10 c11 c12 c13; have hS3 := HS.out _ hBl; have hbd3 := hS3.two.bound; have hsh3 := hS3.shape))
    go_ret
    exact ⟨by rw [HE.out]; rfl, hBl⟩
   ·have h5 : numW n = true := by unfold numW; simp; omega
    have HE : Hid (errP s (pieceErr .tow (k, (gc, gp), (li, lc, lu, lk), (fz, fr, fb), (tz, tr, tb), n)) = .nilIface) := by
     show _ = _
     unfold pieceErr fromErr toErr numErr kFrom kTo; simp only [h1, h2, h5, if_true, reduceCtorEq, false_and, if_false]
     (try rfl)
    clear h5
    go_enter Tryz.func107, Tryz.ntmps107
    go_wp2_with (first | (go_at_call 108; refine HP.out.mono ?_; rintro e w1 ⟨rfl, rfl⟩) | (go_at_call 131; refine (hN _).mono ?_; rintro e w2 ⟨rfl, rfl⟩))
    refine wp_loop_rounds 2 ?_
    rw [rounds_succ]
    go_wp2_with (first | (go_at_call_of 133 (Value.agg #[.string tz, .int .i64 tr, .int .i64 tb]); refine (hT _ hB1).mono ?_; rintro e w3 ⟨rfl, hb3⟩; have hBl := hB1.trans (hb3.mono hB1.size); obtain ⟨c0, c1, c2, c3, c4, c5, c6, c7, c8, c9, c10, c11, c12, c13⟩ := (hE1.below hb3).at; simp only at c0 c1 c2 c3 c4 c5 c6 c7 c8 c9 c10 c11 c12 c13; have hS3 := HS.out _ hBl; have hbd3 := hS3.two.bound; have hsh3 := hS3.shape))
    rw [rounds_succ]
    go_wp2_with (first | (go_at_call_of 133 (Value.agg #[.string tz, .int .i64 tr, .int .i64 tb]); refine (hT _ hB1).mono ?_; rintro e w3 ⟨rfl, hb3⟩; have hBl := hB1.trans (hb3.mono hB1.size); obtain ⟨c0, c1, c2, c3, c4, c5, c6, c7, c8, c9, c10, c11, c12, c13⟩ := (hE1.below hb3).at; simp only at c0 c1 c2 c3 c4 c5 c6 c7 c8 c9 c10 c11 c12 c13; have hS3 := HS.out _ hBl; have hbd3 := hS3.two.bound; have hsh3 := hS3.shape))
    go_ret
    exact ⟨by rw [HE.out]; rfl, hBl⟩
  ·have hx := errP_pos s h2
   rw [hx] at hT
   have HE : Hid (errP s (pieceErr .tow (k, (gc, gp), (li, lc, lu, lk), (fz, fr, fb), (tz, tr, tb), n)) = err (s (placeErr (tz, tr, tb) - 1))) := by
    show _ = _
    unfold pieceErr fromErr toErr numErr kFrom kTo; simp only [h1, h2, if_true, if_false, ← hx]
    (try rfl)
   clear hx
   generalize s (placeErr (tz, tr, tb) - 1) = ad at *
   go_enter Tryz.func107, Tryz.ntmps107
   go_wp2_with (first | (go_at_call 108; refine HP.out.mono ?_; rintro e w1 ⟨rfl, rfl⟩) | (go_at_call 131; refine (hN _).mono ?_; rintro e w2 ⟨rfl, rfl⟩))
   refine wp_loop_rounds 2 ?_
   rw [rounds_succ]
   go_wp2_with (first | (go_at_call_of 133 (Value.agg #[.string tz, .int .i64 tr, .int .i64 tb]); refine (hT _ hB1).mono ?_; rintro e w3 ⟨rfl, hb3⟩; have hBl := hB1.trans (hb3.mono hB1.size); obtain ⟨c0, c1, c2, c3, c4, c5, c6, c7, c8, c9, c10, c11, c12, c13⟩ := (hE1.below hb3).at; simp only at c0 c1 c2 c3 c4 c5 c6 c7 c8 c9 c10 c11 c12 c13; have hS3 := HS.out _ hBl; have hbd3 := hS3.two.bound; have hsh3 := hS3.shape))
   go_ret
   exact ⟨by rw [HE.out]; rfl, hBl⟩
theorem cp_hold (e : En) (w : World) (s : Nat → Addr) (hk : e.1 = kHold ∨ e.1 = kFree) (hz : SzE e) (hs : Ec w s) :
  Calls Tryz.prog 107 #[agE e] w fun r w' => r = .returned (errP s (pieceErr .hold e)) ∧ Below w.heap.size w w' := by
 have hB : Below w.heap.size w (w.alloc (celE e)) := (Below.refl _ w).alloc (Nat.le_refl _) _
 have hE := BlkE.new w e
 have hPl := places_hold e.1 w.heap.size (w.alloc (celE e)) hk hE.at.c0
 have hN : ∀ w, Calls Tryz.prog 131 #[.string e.2.2.1.1] w _ := fun w => name_any e.2.2.1.1 w hz.li
 have HS : Hid (∀ w1, Below w.heap.size w w1 → Ec w1 s) := fun w1 hb => hs.below hb
 clear hz hs
 obtain ⟨k, ⟨gc, gp⟩, ⟨li, lc, lu, lk⟩, ⟨fz, fr, fb⟩, ⟨tz, tr, tb⟩, n⟩ := e
 have hsz : w.heap.size < (w.alloc (celE (k, (gc, gp), (li, lc, lu, lk), (fz, fr, fb), (tz, tr, tb), n))).heap.size := by simp
 unfold agE celE at *
 simp only at *
 have hmv : (k.toList == (⟨#[109, 111, 118, 101]⟩ : ByteArray).data.toList) = false := other_word (by rcases hk with rfl | rfl <;> decide)
 simp only at hmv
 have hB01 : Below (w.alloc (.cells #[.string k, .string gc, .int .i64 gp, .string li, .string lc, .int .i64 lu, .int .i64 lk, .string fz, .int .i64 fr, .int .i64 fb, .string tz, .int .i64 tr, .int .i64 tb, .int .i64 n] 44)).heap.size (w.alloc (.cells #[.string k, .string gc, .int .i64 gp, .string li, .string lc, .int .i64 lu, .int .i64 lk, .string fz, .int .i64 fr, .int .i64 fb, .string tz, .int .i64 tr, .int .i64 tb, .int .i64 n] 44)) (w.alloc (.cells #[.string k, .string gc, .int .i64 gp, .string li, .string lc, .int .i64 lu, .int .i64 lk, .string fz, .int .i64 fr, .int .i64 fb, .string tz, .int .i64 tr, .int .i64 tb, .int .i64 n] 44)) := Below.refl _ _
 have hE1 := hE.below hB01
 have hB1 : Below w.heap.size w (w.alloc (.cells #[.string k, .string gc, .int .i64 gp, .string li, .string lc, .int .i64 lu, .int .i64 lk, .string fz, .int .i64 fr, .int .i64 fb, .string tz, .int .i64 tr, .int .i64 tb, .int .i64 n] 44)) := hB.trans (hB01.mono hB.size)
 have hS1 := HS.out _ hB1
 have hkd := hS1.two.name
 have hbd := hS1.two.bound
 have hsh := hS1.shape
 obtain ⟨a0, a1, a2, a3, a4, a5, a6, a7, a8, a9, a10, a11, a12, a13⟩ := hE1.at
 simp only at a0 a1 a2 a3 a4 a5 a6 a7 a8 a9 a10 a11 a12 a13
 have HP : Hid (Calls Tryz.prog 108 _ _ _) := hPl
 clear hPl hE hB hB01 hk
 cases h1 : isName li.data.toList with
 | false =>
  rw [h1] at hN
  have HE : Hid (errP s (pieceErr .hold (k, (gc, gp), (li, lc, lu, lk), (fz, fr, fb), (tz, tr, tb), n)) = err (s 4)) := by
   show _ = _
   unfold pieceErr fromErr toErr numErr kFrom kTo; simp only [h1, Bool.false_eq_true, if_false]
   (try rfl)
  go_enter Tryz.func107, Tryz.ntmps107
  go_wp2_with (first | (go_at_call 108; refine HP.out.mono ?_; rintro e w1 ⟨rfl, rfl⟩) | (go_at_call 131; refine (hN _).mono ?_; rintro e w2 ⟨rfl, rfl⟩))
  go_ret
  exact ⟨by rw [HE.out]; rfl, hB1⟩
 | true =>
  rw [h1] at hN
  rcases (by omega : n < 1 ∨ (1 ≤ n ∧ 1099511627776 < n) ∨ (1 ≤ n ∧ n ≤ 1099511627776)) with q1 | ⟨q1, q2⟩ | ⟨q1, q2⟩
  ·have h5 : numW n = false := by unfold numW; simp; omega
   have HE : Hid (errP s (pieceErr .hold (k, (gc, gp), (li, lc, lu, lk), (fz, fr, fb), (tz, tr, tb), n)) = err (s 1)) := by
    show _ = _
    unfold pieceErr fromErr toErr numErr kFrom kTo; simp only [h1, h5, Bool.false_eq_true, if_false, if_true]
    (try rfl)
   clear h5
   go_enter Tryz.func107, Tryz.ntmps107
   go_wp2_with (first | (go_at_call 108; refine HP.out.mono ?_; rintro e w1 ⟨rfl, rfl⟩) | (go_at_call 131; refine (hN _).mono ?_; rintro e w2 ⟨rfl, rfl⟩))
   refine wp_loop_rounds 1 ?_
   rw [rounds_succ]
   go_wp2
   go_ret
   exact ⟨by rw [HE.out]; rfl, hB1⟩
  ·have h5 : numW n = false := by unfold numW; simp; omega
   have HE : Hid (errP s (pieceErr .hold (k, (gc, gp), (li, lc, lu, lk), (fz, fr, fb), (tz, tr, tb), n)) = err (s 1)) := by
    show _ = _
    unfold pieceErr fromErr toErr numErr kFrom kTo; simp only [h1, h5, Bool.false_eq_true, if_false, if_true]
    (try rfl)
   clear h5
   go_enter Tryz.func107, Tryz.ntmps107
   go_wp2_with (first | (go_at_call 108; refine HP.out.mono ?_; rintro e w1 ⟨rfl, rfl⟩) | (go_at_call 131; refine (hN _).mono ?_; rintro e w2 ⟨rfl, rfl⟩))
   refine wp_loop_rounds 1 ?_
   rw [rounds_succ]
   go_wp2
   go_ret
   exact ⟨by rw [HE.out]; rfl, hB1⟩
  ·have h5 : numW n = true := by unfold numW; simp; omega
   have HE : Hid (errP s (pieceErr .hold (k, (gc, gp), (li, lc, lu, lk), (fz, fr, fb), (tz, tr, tb), n)) = .nilIface) := by
    show _ = _
    unfold pieceErr fromErr toErr numErr kFrom kTo; simp only [h1, h5, if_true, reduceCtorEq, false_and, if_false]
    (try rfl)
   clear h5
   go_enter Tryz.func107, Tryz.ntmps107
   go_wp2_with (first | (go_at_call 108; refine HP.out.mono ?_; rintro e w1 ⟨rfl, rfl⟩) | (go_at_call 131; refine (hN _).mono ?_; rintro e w2 ⟨rfl, rfl⟩))
   refine wp_loop_rounds 1 ?_
   rw [rounds_succ]
   go_wp2
   go_ret
   exact ⟨by rw [HE.out]; rfl, hB1⟩
theorem hasFrom_any (k : ByteArray) (w : World) : Calls Tryz.prog 98 #[.string k] w fun e w' => e = .returned (.bool (kFrom (kd k))) ∧ w' = w := by
 rcases kind_cases k with rfl | rfl | (rfl | rfl) | (rfl | rfl) | rfl | (rfl | rfl) | hn
 ·go_enter Tryz.func98, Tryz.ntmps98
  go_wp2
  go_ret
  exact ⟨rfl, rfl⟩
 ·go_enter Tryz.func98, Tryz.ntmps98
  go_wp2
  go_ret
  exact ⟨rfl, rfl⟩
 ·go_enter Tryz.func98, Tryz.ntmps98
  go_wp2
  go_ret
  exact ⟨rfl, rfl⟩
 ·go_enter Tryz.func98, Tryz.ntmps98
  go_wp2
  go_ret
  exact ⟨rfl, rfl⟩
 ·go_enter Tryz.func98, Tryz.ntmps98
  go_wp2
  go_ret
  exact ⟨rfl, rfl⟩
 ·go_enter Tryz.func98, Tryz.ntmps98
  go_wp2
  go_ret
  exact ⟨rfl, rfl⟩
 ·go_enter Tryz.func98, Tryz.ntmps98
  go_wp2
  go_ret
  exact ⟨rfl, rfl⟩
 ·go_enter Tryz.func98, Tryz.ntmps98
  go_wp2
  go_ret
  exact ⟨rfl, rfl⟩
 ·go_enter Tryz.func98, Tryz.ntmps98
  go_wp2
  go_ret
  exact ⟨rfl, rfl⟩
 ·have hd := hn.kd
  rw [hd]
  have e1 := other_word hn.in_
  have e2 := other_word hn.more
  have e3 := other_word hn.out
  have e4 := other_word hn.less
  have e5 := other_word hn.move
  simp only at e1 e2 e3 e4 e5
  clear hn hd
  go_enter Tryz.func98, Tryz.ntmps98
  go_wp2
  go_ret
  exact ⟨rfl, rfl⟩
theorem hasTo_any (k : ByteArray) (w : World) : Calls Tryz.prog 99 #[.string k] w fun e w' => e = .returned (.bool (kTo (kd k))) ∧ w' = w := by
 rcases kind_cases k with rfl | rfl | (rfl | rfl) | (rfl | rfl) | rfl | (rfl | rfl) | hn
 ·go_enter Tryz.func99, Tryz.ntmps99
  go_wp2
  go_ret
  exact ⟨rfl, rfl⟩
 ·go_enter Tryz.func99, Tryz.ntmps99
  go_wp2
  go_ret
  exact ⟨rfl, rfl⟩
 ·go_enter Tryz.func99, Tryz.ntmps99
  go_wp2
  go_ret
  exact ⟨rfl, rfl⟩
 ·go_enter Tryz.func99, Tryz.ntmps99
  go_wp2
  go_ret
  exact ⟨rfl, rfl⟩
 ·go_enter Tryz.func99, Tryz.ntmps99
  go_wp2
  go_ret
  exact ⟨rfl, rfl⟩
 ·go_enter Tryz.func99, Tryz.ntmps99
  go_wp2
  go_ret
  exact ⟨rfl, rfl⟩
 ·go_enter Tryz.func99, Tryz.ntmps99
  go_wp2
  go_ret
  exact ⟨rfl, rfl⟩
 ·go_enter Tryz.func99, Tryz.ntmps99
  go_wp2
  go_ret
  exact ⟨rfl, rfl⟩
 ·go_enter Tryz.func99, Tryz.ntmps99
  go_wp2
  go_ret
  exact ⟨rfl, rfl⟩
 ·have hd := hn.kd
  rw [hd]
  have e1 := other_word hn.in_
  have e2 := other_word hn.more
  have e3 := other_word hn.out
  have e4 := other_word hn.less
  have e5 := other_word hn.move
  simp only at e1 e2 e3 e4 e5
  clear hn hd
  go_enter Tryz.func99, Tryz.ntmps99
  go_wp2
  go_ret
  exact ⟨rfl, rfl⟩
theorem isKind_any (k : ByteArray) (w : World) : Calls Tryz.prog 94 #[.string k] w fun e w' => e = .returned (.bool (isKd k)) ∧ w' = w := by
 have hF := fun w => hasFrom_any k w
 have hT := fun w => hasTo_any k w
 rcases kind_cases k with rfl | rfl | (rfl | rfl) | (rfl | rfl) | rfl | (rfl | rfl) | hn
 ·have a1 : kFrom (kd kGoods) = false := by decide
  have a2 : kTo (kd kGoods) = false := by decide
  have a3 : isKd kGoods = true := by decide
  rw [a1] at hF
  rw [a2] at hT
  rw [a3]
  clear a1 a2 a3
  go_enter Tryz.func94, Tryz.ntmps94
  go_wp2_with (first | (go_at_call 98; refine (hF _).mono ?_; rintro e w1 ⟨rfl, rfl⟩) | (go_at_call 99; refine (hT _).mono ?_; rintro e w2 ⟨rfl, rfl⟩))
  go_ret
  exact ⟨rfl, rfl⟩
 ·have a1 : kFrom (kd kLot) = false := by decide
  have a2 : kTo (kd kLot) = false := by decide
  have a3 : isKd kLot = true := by decide
  rw [a1] at hF
  rw [a2] at hT
  rw [a3]
  clear a1 a2 a3
  go_enter Tryz.func94, Tryz.ntmps94
  go_wp2_with (first | (go_at_call 98; refine (hF _).mono ?_; rintro e w1 ⟨rfl, rfl⟩) | (go_at_call 99; refine (hT _).mono ?_; rintro e w2 ⟨rfl, rfl⟩))
  go_ret
  exact ⟨rfl, rfl⟩
 ·have a1 : kFrom (kd kIn) = false := by decide
  have a2 : kTo (kd kIn) = true := by decide
  have a3 : isKd kIn = true := by decide
  rw [a1] at hF
  rw [a2] at hT
  rw [a3]
  clear a1 a2 a3
  go_enter Tryz.func94, Tryz.ntmps94
  go_wp2_with (first | (go_at_call 98; refine (hF _).mono ?_; rintro e w1 ⟨rfl, rfl⟩) | (go_at_call 99; refine (hT _).mono ?_; rintro e w2 ⟨rfl, rfl⟩))
  go_ret
  exact ⟨rfl, rfl⟩
 ·have a1 : kFrom (kd kMore) = false := by decide
  have a2 : kTo (kd kMore) = true := by decide
  have a3 : isKd kMore = true := by decide
  rw [a1] at hF
  rw [a2] at hT
  rw [a3]
  clear a1 a2 a3
  go_enter Tryz.func94, Tryz.ntmps94
  go_wp2_with (first | (go_at_call 98; refine (hF _).mono ?_; rintro e w1 ⟨rfl, rfl⟩) | (go_at_call 99; refine (hT _).mono ?_; rintro e w2 ⟨rfl, rfl⟩))
  go_ret
  exact ⟨rfl, rfl⟩
 ·have a1 : kFrom (kd kOut) = true := by decide
  have a2 : kTo (kd kOut) = false := by decide
  have a3 : isKd kOut = true := by decide
  rw [a1] at hF
  rw [a2] at hT
  rw [a3]
  clear a1 a2 a3
  go_enter Tryz.func94, Tryz.ntmps94
  go_wp2_with (first | (go_at_call 98; refine (hF _).mono ?_; rintro e w1 ⟨rfl, rfl⟩) | (go_at_call 99; refine (hT _).mono ?_; rintro e w2 ⟨rfl, rfl⟩))
  go_ret
  exact ⟨rfl, rfl⟩
 ·have a1 : kFrom (kd kLess) = true := by decide
  have a2 : kTo (kd kLess) = false := by decide
  have a3 : isKd kLess = true := by decide
  rw [a1] at hF
  rw [a2] at hT
  rw [a3]
  clear a1 a2 a3
  go_enter Tryz.func94, Tryz.ntmps94
  go_wp2_with (first | (go_at_call 98; refine (hF _).mono ?_; rintro e w1 ⟨rfl, rfl⟩) | (go_at_call 99; refine (hT _).mono ?_; rintro e w2 ⟨rfl, rfl⟩))
  go_ret
  exact ⟨rfl, rfl⟩
 ·have a1 : kFrom (kd kMove) = true := by decide
  have a2 : kTo (kd kMove) = true := by decide
  have a3 : isKd kMove = true := by decide
  rw [a1] at hF
  rw [a2] at hT
  rw [a3]
  clear a1 a2 a3
  go_enter Tryz.func94, Tryz.ntmps94
  go_wp2_with (first | (go_at_call 98; refine (hF _).mono ?_; rintro e w1 ⟨rfl, rfl⟩) | (go_at_call 99; refine (hT _).mono ?_; rintro e w2 ⟨rfl, rfl⟩))
  go_ret
  exact ⟨rfl, rfl⟩
 ·have a1 : kFrom (kd kHold) = false := by decide
  have a2 : kTo (kd kHold) = false := by decide
  have a3 : isKd kHold = true := by decide
  rw [a1] at hF
  rw [a2] at hT
  rw [a3]
  clear a1 a2 a3
  go_enter Tryz.func94, Tryz.ntmps94
  go_wp2_with (first | (go_at_call 98; refine (hF _).mono ?_; rintro e w1 ⟨rfl, rfl⟩) | (go_at_call 99; refine (hT _).mono ?_; rintro e w2 ⟨rfl, rfl⟩))
  go_ret
  exact ⟨rfl, rfl⟩
 ·have a1 : kFrom (kd kFree) = false := by decide
  have a2 : kTo (kd kFree) = false := by decide
  have a3 : isKd kFree = true := by decide
  rw [a1] at hF
  rw [a2] at hT
  rw [a3]
  clear a1 a2 a3
  go_enter Tryz.func94, Tryz.ntmps94
  go_wp2_with (first | (go_at_call 98; refine (hF _).mono ?_; rintro e w1 ⟨rfl, rfl⟩) | (go_at_call 99; refine (hT _).mono ?_; rintro e w2 ⟨rfl, rfl⟩))
  go_ret
  exact ⟨rfl, rfl⟩
 ·have hd := hn.kd
  have a3 : isKd k = false := by unfold isKd; rw [hd]
  rw [hd] at hF hT
  rw [a3]
  have e1 := other_word hn.goods
  have e2 := other_word hn.lot
  have e3 := other_word hn.hold
  have e4 := other_word hn.free
  simp only at e1 e2 e3 e4
  unfold kFrom at hF
  unfold kTo at hT
  simp only at hF hT
  clear hn hd a3
  go_enter Tryz.func94, Tryz.ntmps94
  go_wp2_with (first | (go_at_call 98; refine (hF _).mono ?_; rintro e w1 ⟨rfl, rfl⟩) | (go_at_call 99; refine (hT _).mono ?_; rintro e w2 ⟨rfl, rfl⟩))
  go_ret
  exact ⟨rfl, rfl⟩
theorem gerror_any (g : Gd) (w : World) (hz : g.1.size ≤ maxLen) :
  Calls Tryz.prog 95 #[.agg #[.string g.1, .int .i64 g.2]] w fun e w' => e = .returned (.int .i64 (gdErr g)) ∧ Below w.heap.size w w' := by
 obtain ⟨x, pack⟩ := g
 simp only at hz ⊢
 have hn : ∀ w, Calls Tryz.prog 97 #[.string x] w _ := fun w => isName_any x w hz
 unfold gdErr
 simp only
 cases h1 : isName x.data.toList with
 | false =>
  rw [h1] at hn
  rw [if_neg (by decide)]
  go_enter Tryz.func95, Tryz.ntmps95
  go_wp2_with (go_at_call 97; refine (hn _).mono ?_; rintro e w1 ⟨rfl, rfl⟩)
  go_ret
  exact ⟨rfl, (Below.refl _ _).alloc (Nat.le_refl _) _⟩
 | true =>
  rw [h1] at hn
  rw [if_pos rfl]
  have hc : (pack < 1 ∧ pw pack = false) ∨ (1 ≤ pack ∧ 1000 < pack ∧ pw pack = false) ∨ (1 ≤ pack ∧ pack ≤ 1000 ∧ pw pack = true) := by
   unfold pw
   by_cases q1 : pack < 1
   ·exact Or.inl ⟨q1, by simp; omega⟩
   ·by_cases q2 : 1000 < pack
    ·exact Or.inr (Or.inl ⟨by omega, q2, by simp; omega⟩)
    ·exact Or.inr (Or.inr ⟨by omega, by omega, by simp; omega⟩)
  rcases hc with ⟨q1, h2⟩ | ⟨q1, q2, h2⟩ | ⟨q1, q2, h2⟩
  ·rw [if_neg (by rw [h2]; decide)]
   clear h2
   go_enter Tryz.func95, Tryz.ntmps95
   go_wp2_with (go_at_call 97; refine (hn _).mono ?_; rintro e w1 ⟨rfl, rfl⟩)
   go_ret
   exact ⟨rfl, (Below.refl _ _).alloc (Nat.le_refl _) _⟩
  ·rw [if_neg (by rw [h2]; decide)]
   clear h2
   go_enter Tryz.func95, Tryz.ntmps95
   go_wp2_with (go_at_call 97; refine (hn _).mono ?_; rintro e w1 ⟨rfl, rfl⟩)
   go_ret
   exact ⟨rfl, (Below.refl _ _).alloc (Nat.le_refl _) _⟩
  ·rw [if_pos h2]
   clear h2
   go_enter Tryz.func95, Tryz.ntmps95
   go_wp2_with (go_at_call 97; refine (hn _).mono ?_; rintro e w1 ⟨rfl, rfl⟩)
   go_ret
   exact ⟨rfl, (Below.refl _ _).alloc (Nat.le_refl _) _⟩
theorem others_goods (e : En) (w : World) (hk : e.1 = kGoods) :
  Calls Tryz.prog 74 #[agE e] w fun r w' => r = .returned (agE (othersC .goods e)) ∧ Below w.heap.size w w' := by
 obtain ⟨k, ⟨gc, gp⟩, ⟨li, lc, lu, lk⟩, ⟨fz, fr, fb⟩, ⟨tz, tr, tb⟩, n⟩ := e
 simp only at hk
 subst hk
 unfold othersC agE zeroG
 simp only
 go_enter Tryz.func74, Tryz.ntmps74
 go_wp2
 refine bodyPost_ret (v := .agg #[.string ⟨#[]⟩, .string ⟨#[]⟩, .int .i64 0, .string li, .string lc, .int .i64 lu, .int .i64 lk, .string fz, .int .i64 fr, .int .i64 fb, .string tz, .int .i64 tr, .int .i64 tb, .int .i64 n]) (by simp [results, Tryz.results74, go_sem]) rfl ⟨rfl, ?_⟩
 repeat (first | exact Below.refl _ _ | (refine Below.setCell ?_ (by (try simp); (try omega)) _) | (refine Below.alloc ?_ (by (try simp); (try omega)) _) | (refine Below.drew ?_))
theorem others_lot (e : En) (w : World) (hk : e.1 = kLot) :
  Calls Tryz.prog 74 #[agE e] w fun r w' => r = .returned (agE (othersC .lot e)) ∧ Below w.heap.size w w' := by
 obtain ⟨k, ⟨gc, gp⟩, ⟨li, lc, lu, lk⟩, ⟨fz, fr, fb⟩, ⟨tz, tr, tb⟩, n⟩ := e
 simp only at hk
 subst hk
 unfold othersC agE zeroL
 simp only
 go_enter Tryz.func74, Tryz.ntmps74
 go_wp2
 refine bodyPost_ret (v := .agg #[.string ⟨#[]⟩, .string gc, .int .i64 gp, .string ⟨#[]⟩, .string ⟨#[]⟩, .int .i64 0, .int .i64 0, .string fz, .int .i64 fr, .int .i64 fb, .string tz, .int .i64 tr, .int .i64 tb, .int .i64 n]) (by simp [results, Tryz.results74, go_sem]) rfl ⟨rfl, ?_⟩
 repeat (first | exact Below.refl _ _ | (refine Below.setCell ?_ (by (try simp); (try omega)) _) | (refine Below.alloc ?_ (by (try simp); (try omega)) _) | (refine Below.drew ?_))
theorem others_hold (e : En) (w : World) (hk : e.1 = kHold ∨ e.1 = kFree) :
  Calls Tryz.prog 74 #[agE e] w fun r w' => r = .returned (agE (othersC .hold e)) ∧ Below w.heap.size w w' := by
 have hPl := fun w1 (h0 : w1.cell? ⟨w.heap.size, 0, none⟩ = some (.string e.1)) => places_hold e.1 w.heap.size w1 hk h0
 obtain ⟨k, ⟨gc, gp⟩, ⟨li, lc, lu, lk⟩, ⟨fz, fr, fb⟩, ⟨tz, tr, tb⟩, n⟩ := e
 have hg : (k.toList == (⟨#[103, 111, 111, 100, 115]⟩ : ByteArray).data.toList) = false := other_word (by rcases hk with h | h <;> simp only at h <;> subst h <;> decide)
 have hl : (k.toList == (⟨#[108, 111, 116]⟩ : ByteArray).data.toList) = false := other_word (by rcases hk with h | h <;> simp only at h <;> subst h <;> decide)
 simp only at hg hl
 unfold othersC agE
 unfold kFrom kTo
 simp only [if_false, Bool.false_eq_true] at hPl ⊢
 clear hk
 go_enter Tryz.func74, Tryz.ntmps74
 go_wp2_with (go_at_call 108; refine (hPl _ (by simp)).mono ?_; rintro e w1 ⟨rfl, rfl⟩)
 refine wp_loop_rounds 1 ?_
 rw [rounds_succ]
 go_wp2
 refine bodyPost_ret (v := .agg #[.string ⟨#[]⟩, .string gc, .int .i64 gp, .string ⟨#[]⟩, .string lc, .int .i64 lu, .int .i64 lk, .string fz, .int .i64 fr, .int .i64 fb, .string tz, .int .i64 tr, .int .i64 tb, .int .i64 0]) (by simp [results, Tryz.results74, go_sem]) rfl ⟨rfl, ?_⟩
 repeat (first | exact Below.refl _ _ | (refine Below.setCell ?_ (by (try simp); (try omega)) _) | (refine Below.alloc ?_ (by (try simp); (try omega)) _) | (refine Below.drew ?_))
theorem others_to (e : En) (w : World) (hk : e.1 = kIn ∨ e.1 = kMore) :
  Calls Tryz.prog 74 #[agE e] w fun r w' => r = .returned (agE (othersC .tow e)) ∧ Below w.heap.size w w' := by
 have hPl := fun w1 (h0 : w1.cell? ⟨w.heap.size, 0, none⟩ = some (.string e.1)) => places_to e.1 w.heap.size w1 hk h0
 obtain ⟨k, ⟨gc, gp⟩, ⟨li, lc, lu, lk⟩, ⟨fz, fr, fb⟩, ⟨tz, tr, tb⟩, n⟩ := e
 have hg : (k.toList == (⟨#[103, 111, 111, 100, 115]⟩ : ByteArray).data.toList) = false := other_word (by rcases hk with h | h <;> simp only at h <;> subst h <;> decide)
 have hl : (k.toList == (⟨#[108, 111, 116]⟩ : ByteArray).data.toList) = false := other_word (by rcases hk with h | h <;> simp only at h <;> subst h <;> decide)
 simp only at hg hl
 unfold othersC agE zeroP
 unfold kFrom kTo
 simp only [if_true, if_false, Bool.false_eq_true] at hPl ⊢
 clear hk
 go_enter Tryz.func74, Tryz.ntmps74
 go_wp2_with (go_at_call 108; refine (hPl _ (by simp)).mono ?_; rintro e w1 ⟨rfl, rfl⟩)
 refine wp_loop_rounds 2 ?_
 rw [rounds_succ]
 go_wp2
 rw [rounds_succ]
 go_wp2
 refine bodyPost_ret (v := .agg #[.string ⟨#[]⟩, .string gc, .int .i64 gp, .string ⟨#[]⟩, .string lc, .int .i64 lu, .int .i64 lk, .string fz, .int .i64 fr, .int .i64 fb, .string ⟨#[]⟩, .int .i64 0, .int .i64 0, .int .i64 0]) (by simp [results, Tryz.results74, go_sem]) rfl ⟨rfl, ?_⟩
 repeat (first | exact Below.refl _ _ | (refine Below.setCell ?_ (by (try simp); (try omega)) _) | (refine Below.alloc ?_ (by (try simp); (try omega)) _) | (refine Below.drew ?_))
theorem others_from (e : En) (w : World) (hk : e.1 = kOut ∨ e.1 = kLess) :
  Calls Tryz.prog 74 #[agE e] w fun r w' => r = .returned (agE (othersC .frm e)) ∧ Below w.heap.size w w' := by
 have hPl := fun w1 (h0 : w1.cell? ⟨w.heap.size, 0, none⟩ = some (.string e.1)) => places_from e.1 w.heap.size w1 hk h0
 obtain ⟨k, ⟨gc, gp⟩, ⟨li, lc, lu, lk⟩, ⟨fz, fr, fb⟩, ⟨tz, tr, tb⟩, n⟩ := e
 have hg : (k.toList == (⟨#[103, 111, 111, 100, 115]⟩ : ByteArray).data.toList) = false := other_word (by rcases hk with h | h <;> simp only at h <;> subst h <;> decide)
 have hl : (k.toList == (⟨#[108, 111, 116]⟩ : ByteArray).data.toList) = false := other_word (by rcases hk with h | h <;> simp only at h <;> subst h <;> decide)
 simp only at hg hl
 unfold othersC agE zeroP
 unfold kFrom kTo
 simp only [if_true, if_false, Bool.false_eq_true] at hPl ⊢
 clear hk
 go_enter Tryz.func74, Tryz.ntmps74
 go_wp2_with (go_at_call 108; refine (hPl _ (by simp)).mono ?_; rintro e w1 ⟨rfl, rfl⟩)
 refine wp_loop_rounds 2 ?_
 rw [rounds_succ]
 go_wp2
 rw [rounds_succ]
 go_wp2
 refine bodyPost_ret (v := .agg #[.string ⟨#[]⟩, .string gc, .int .i64 gp, .string ⟨#[]⟩, .string lc, .int .i64 lu, .int .i64 lk, .string ⟨#[]⟩, .int .i64 0, .int .i64 0, .string tz, .int .i64 tr, .int .i64 tb, .int .i64 0]) (by simp [results, Tryz.results74, go_sem]) rfl ⟨rfl, ?_⟩
 repeat (first | exact Below.refl _ _ | (refine Below.setCell ?_ (by (try simp); (try omega)) _) | (refine Below.alloc ?_ (by (try simp); (try omega)) _) | (refine Below.drew ?_))
theorem others_move (e : En) (w : World) (hk : e.1 = kMove) :
  Calls Tryz.prog 74 #[agE e] w fun r w' => r = .returned (agE (othersC .move e)) ∧ Below w.heap.size w w' := by
 have hPl := fun w1 (h0 : w1.cell? ⟨w.heap.size, 0, none⟩ = some (.string e.1)) => places_move w.heap.size w1 (by rw [← hk]; exact h0)
 obtain ⟨k, ⟨gc, gp⟩, ⟨li, lc, lu, lk⟩, ⟨fz, fr, fb⟩, ⟨tz, tr, tb⟩, n⟩ := e
 simp only at hk
 subst hk
 unfold othersC agE zeroP
 unfold kFrom kTo
 simp only [if_true] at hPl ⊢
 go_enter Tryz.func74, Tryz.ntmps74
 go_wp2_with (go_at_call 108; refine (hPl _ (by simp)).mono ?_; rintro e w1 ⟨rfl, rfl⟩)
 refine wp_loop_rounds 3 ?_
 rw [rounds_succ]
 go_wp2
 rw [rounds_succ]
 go_wp2
 rw [rounds_succ]
 go_wp2
 refine bodyPost_ret (v := .agg #[.string ⟨#[]⟩, .string gc, .int .i64 gp, .string ⟨#[]⟩, .string lc, .int .i64 lu, .int .i64 lk, .string ⟨#[]⟩, .int .i64 0, .int .i64 0, .string ⟨#[]⟩, .int .i64 0, .int .i64 0, .int .i64 0]) (by simp [results, Tryz.results74, go_sem]) rfl ⟨rfl, ?_⟩
 repeat (first | exact Below.refl _ _ | (refine Below.setCell ?_ (by (try simp); (try omega)) _) | (refine Below.alloc ?_ (by (try simp); (try omega)) _) | (refine Below.drew ?_))
end Go.Proofs.YtefkchmahcjleaaGreatDoor
