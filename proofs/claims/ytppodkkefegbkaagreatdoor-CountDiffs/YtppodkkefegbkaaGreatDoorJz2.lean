/-
 Plain mathematics of numbers as text and of pieces as cases and pieces: what is written is read. No program stands here.
-/
import Derived.Lib.ItoaNum
import Derived.Lib.IndexLaws
import Derived.Test.YtppodkkefegbkaaGreatDoorProg
import Derived.Test.YtppodkkefegbkaaGreatDoorShelf
import Derived.WalkKit
import Derived.BigQuiet
import Derived.WalkSmall
import Derived.Below
import Derived.Lib.LaidTab
import Derived.Test.YtppodkkefegbkaaGreatDoorErrs
import Derived.Maps.RangeWalk
import Derived.WideKeyEntry
import Derived.Lib.SmallJoins
import Derived.OwnWalk
import Derived.Test.YtppodkkefegbkaaGreatDoorJz0
import Derived.Shelf.SlSortCmp.KitK
import Derived.Sort.WalkB2
import Derived.Sort.WalkB12
import Derived.Deep.LoopGhost
set_option maxRecDepth 100000
set_option maxHeartbeats 16000000
namespace Go.Proofs.YtppodkkefegbkaaGreatDoor
open Go.Lib
/- a text without a sign, and cut at its first one -/
def pre (c : UInt8) (l : List UInt8) : List UInt8 := l.takeWhile (· != c)
def post (c : UInt8) (l : List UInt8) : List UInt8 := (l.dropWhile (· != c)).drop 1
def has (c : UInt8) (l : List UInt8) : Bool := l.any (· == c)
/- pieces -/
def pw (p : Int) : Bool := decide (1 ≤ p) && decide (p ≤ 1000)
end Go.Proofs.YtppodkkefegbkaaGreatDoor
namespace Go.Proofs.YtppodkkefegbkaaGreatDoor
open Go.RowKit Go.Lib
theorem take_snoc (s : ByteArray) (k : Nat) (h : k < s.size) : s.data.toList.take (k + 1) = s.data.toList.take k ++ [s[k]] := by
 rw [List.take_succ_eq_append_getElem (by simpa using h)]; rfl
theorem isEmpty_of (s : ByteArray) (h : 1 ≤ s.size) : s.toList.isEmpty = false := by
 rw [← decide_eq_emptyBytes]
 apply decide_eq_false
 rintro rfl
 exact absurd h (by decide)
theorem size_len (s : ByteArray) : s.data.toList.length = s.size := (Lib.size_eq s).symm
end Go.Proofs.YtppodkkefegbkaaGreatDoor
namespace Go.Proofs.YtppodkkefegbkaaGreatDoor
open Go.RowKit Go.Lib Go.Sort
theorem isEmpty_nil {s : ByteArray} (h : s.data.toList = []) : s = ByteArray.empty := by
 cases s; simp at h; subst h; rfl
theorem below_grow (w : World) (k : Nat) (os : Array Obj) : Below w.heap.size w (grow (w.drewN k) os) :=
 ⟨rfl, rfl, rfl, by show w.heap.size ≤ (w.heap ++ os).size; simp, fun j hj => by show (w.heap ++ os)[j]? = _; rw [Array.getElem?_append_left hj]⟩
end Go.Proofs.YtppodkkefegbkaaGreatDoor
namespace Go.Proofs.YtppodkkefegbkaaGreatDoor
open Go.RowKit Go.Extern.Stop Go.Stop Go.Extern
theorem is_same (a : Addr) (w : World) :
  Calls Tryz.prog 75 #[.iface 225 (.pointer (some a)), .iface 225 (.pointer (some a))] w fun e w' => e = .returned (.bool true) ∧ w' = w := by
 obtain ⟨i, hi, hcmp⟩ := Option.map_eq_some_iff.1 Tryz.eComp
 obtain ⟨j, hj, hjs⟩ : ∃ j, Tryz.prog.info? 246 = some j ∧ j.size ≠ 0 := by
  rcases Tryz.eSize with h | h <;> obtain ⟨j, hj, hjs⟩ := Option.map_eq_some_iff.1 h <;> exact ⟨j, hj, by rw [hjs]; decide⟩
 have h8 := Tryz.eCallTypeOf
 have h32 := Tryz.eCallComparable
 have tT := Tryz.eTypeOfE
 have mR := Tryz.eMethodComparable
 have heq := run_eql_iface_ptr_same (P := Tryz.prog) w a Tryz.underlying32 Tryz.underlying225 hi hcmp hj
 go_enter Tryz.func75, Tryz.ntmps75
 go_wp2
 refine wp_loop_rounds 1 ?_
 rw [rounds_succ]
 go_wp2
 go_ret
 exact ⟨rfl, rfl⟩
theorem is_other (a b : Addr) (ca cb : Array Value) (ta tb : TypeId) (w : World) (hne : a ≠ b) (ha : w.heap[a.block]? = some (.cells ca ta (0, 0))) (hb : w.heap[b.block]? = some (.cells cb tb (0, 0))) :
  Calls Tryz.prog 75 #[.iface 225 (.pointer (some a)), .iface 225 (.pointer (some b))] w fun e w' => e = .returned (.bool false) ∧ w' = w := by
 obtain ⟨i, hi, hcmp⟩ := Option.map_eq_some_iff.1 Tryz.eComp
 obtain ⟨j, hj, hjs⟩ : ∃ j, Tryz.prog.info? 246 = some j ∧ j.size ≠ 0 := by
  rcases Tryz.eSize with h | h <;> obtain ⟨j, hj, hjs⟩ := Option.map_eq_some_iff.1 h <;> exact ⟨j, hj, by rw [hjs]; decide⟩
 have h8 := Tryz.eCallTypeOf
 have h32 := Tryz.eCallComparable
 have tT := Tryz.eTypeOfE
 have mR := Tryz.eMethodComparable
 have nE := Tryz.eNoIsE
 have uE := Tryz.eNoUnwrapE
 have vE := Tryz.eNoUnwrapsE
 have heq := run_eql_iface_ptr_other (P := Tryz.prog) w Tryz.underlying32 Tryz.underlying225 hi hcmp hj hjs hne ha hb
 go_enter Tryz.func75, Tryz.ntmps75
 go_wp2
 refine wp_loop_rounds 1 ?_
 rw [rounds_succ]
 go_wp2
 go_ret
 exact ⟨rfl, rfl⟩
theorem is_wrap_same (pb po : Nat) (b : Addr) (w : World) (h1 : w.cell? ⟨pb, po + 1, none⟩ = some (.iface 225 (.pointer (some b)))) :
  Calls Tryz.prog 75 #[.iface 83 (.pointer (some ⟨pb, po, none⟩)), .iface 225 (.pointer (some b))] w fun e w' => e = .returned (.bool true) ∧ w' = w := by
 obtain ⟨i, hi, hcmp⟩ := Option.map_eq_some_iff.1 Tryz.eComp
 obtain ⟨j, hj, hjs⟩ : ∃ j, Tryz.prog.info? 246 = some j ∧ j.size ≠ 0 := by
  rcases Tryz.eSize with h | h <;> obtain ⟨j, hj, hjs⟩ := Option.map_eq_some_iff.1 h <;> exact ⟨j, hj, by rw [hjs]; decide⟩
 have h8 := Tryz.eCallTypeOf
 have h32 := Tryz.eCallComparable
 have tT := Tryz.eTypeOfE
 have mR := Tryz.eMethodComparable
 have nW := Tryz.eNoIsF
 have uW := Tryz.eHasUnwrapF
 have mU := Tryz.eMethodUnwrap
 have heq := run_eql_iface_ptr_same (P := Tryz.prog) w b Tryz.underlying32 Tryz.underlying225 hi hcmp hj
 have hty := run_eql_iface_types (P := Tryz.prog) 83 225 (.pointer (some ⟨pb, po, none⟩)) (.pointer (some b)) Tryz.underlying32 (by decide) w
 go_enter Tryz.func75, Tryz.ntmps75
 go_wp2
 refine wp_loop_rounds 2 ?_
 rw [rounds_succ]
 go_wp2
 rw [rounds_succ]
 go_wp2
 go_ret
 exact ⟨rfl, rfl⟩
theorem is_wrap_other (pb po : Nat) (b a : Addr) (ca cb : Array Value) (ta tb : TypeId) (w : World) (h1 : w.cell? ⟨pb, po + 1, none⟩ = some (.iface 225 (.pointer (some a)))) (hne : a ≠ b) (ha : w.heap[a.block]? = some (.cells ca ta (0, 0))) (hb : w.heap[b.block]? = some (.cells cb tb (0, 0))) :
  Calls Tryz.prog 75 #[.iface 83 (.pointer (some ⟨pb, po, none⟩)), .iface 225 (.pointer (some b))] w fun e w' => e = .returned (.bool false) ∧ w' = w := by
 obtain ⟨i, hi, hcmp⟩ := Option.map_eq_some_iff.1 Tryz.eComp
 obtain ⟨j, hj, hjs⟩ : ∃ j, Tryz.prog.info? 246 = some j ∧ j.size ≠ 0 := by
  rcases Tryz.eSize with h | h <;> obtain ⟨j, hj, hjs⟩ := Option.map_eq_some_iff.1 h <;> exact ⟨j, hj, by rw [hjs]; decide⟩
 have h8 := Tryz.eCallTypeOf
 have h32 := Tryz.eCallComparable
 have tT := Tryz.eTypeOfE
 have mR := Tryz.eMethodComparable
 have nE := Tryz.eNoIsE
 have uE := Tryz.eNoUnwrapE
 have vE := Tryz.eNoUnwrapsE
 have nW := Tryz.eNoIsF
 have uW := Tryz.eHasUnwrapF
 have mU := Tryz.eMethodUnwrap
 have heq := run_eql_iface_ptr_other (P := Tryz.prog) w Tryz.underlying32 Tryz.underlying225 hi hcmp hj hjs hne ha hb
 have hty := run_eql_iface_types (P := Tryz.prog) 83 225 (.pointer (some ⟨pb, po, none⟩)) (.pointer (some b)) Tryz.underlying32 (by decide) w
 go_enter Tryz.func75, Tryz.ntmps75
 go_wp2
 refine wp_loop_rounds 2 ?_
 rw [rounds_succ]
 go_wp2
 rw [rounds_succ]
 go_wp2
 go_ret
 exact ⟨rfl, rfl⟩
abbrev err (a : Addr) : Value := .iface 225 (.pointer (some a))
def gOf (i : Nat) : Nat := [6, 5, 0, 7, 8, 1, 2, 3, 4, 9, 10, 11].getD i 0
structure Sent (w : World) (s : Nat → Addr) : Prop where
 cell : ∀ i, i < 12 → w.cell? ⟨gOf i, 0, none⟩ = some (err (s i))
 block : ∀ i, i < 12 → ∃ c t, w.heap[(s i).block]? = some (.cells c t (0, 0))
 inj : ∀ i j, i < 12 → j < 12 → s i = s j → i = j
def Handle (w : World) : Prop := w.cell? ⟨12, 0, none⟩ = some (.iface 190 (.agg #[.pointer (some ⟨13, 32, none⟩)]))
theorem block_lt {w : World} {b : Nat} {o : Obj} (h : w.heap[b]? = some o) : b < w.heap.size := by
 rcases Nat.lt_or_ge b w.heap.size with h' | h'
 ·exact h'
 ·simp [Array.getElem?_eq_none h'] at h
theorem Sent.below {w w' : World} {s : Nat → Addr} (h : Sent w s) (hb : Below w.heap.size w w') : Sent w' s where
 cell i hi := by rw [hb.cell (p := ⟨gOf i, 0, none⟩) (cell_lt (h.cell i hi))]; exact h.cell i hi
 block i hi := by
  obtain ⟨c, t, hc⟩ := h.block i hi
  exact ⟨c, t, by rw [hb.block _ (block_lt hc)]; exact hc⟩
 inj := h.inj
theorem Sent.cells {w : World} {s : Nat → Addr} (h : Sent w s) : w.cell? ⟨6, 0, none⟩ = some (err (s 0)) ∧ w.cell? ⟨5, 0, none⟩ = some (err (s 1)) ∧ w.cell? ⟨0, 0, none⟩ = some (err (s 2)) ∧ w.cell? ⟨7, 0, none⟩ = some (err (s 3)) ∧ w.cell? ⟨8, 0, none⟩ = some (err (s 4)) ∧ w.cell? ⟨1, 0, none⟩ = some (err (s 5)) ∧ w.cell? ⟨2, 0, none⟩ = some (err (s 6)) ∧ w.cell? ⟨3, 0, none⟩ = some (err (s 7)) ∧ w.cell? ⟨4, 0, none⟩ = some (err (s 8)) ∧ w.cell? ⟨9, 0, none⟩ = some (err (s 9)) ∧ w.cell? ⟨10, 0, none⟩ = some (err (s 10)) ∧ w.cell? ⟨11, 0, none⟩ = some (err (s 11)) :=
 ⟨h.cell 0 (by decide), h.cell 1 (by decide), h.cell 2 (by decide), h.cell 3 (by decide), h.cell 4 (by decide), h.cell 5 (by decide), h.cell 6 (by decide), h.cell 7 (by decide), h.cell 8 (by decide), h.cell 9 (by decide), h.cell 10 (by decide), h.cell 11 (by decide)⟩
theorem Handle.below {w w' : World} (h : Handle w) (hb : Below w.heap.size w w') : Handle w' := by
 unfold Handle at *
 rw [hb.cell (p := ⟨12, 0, none⟩) (cell_lt h)]; exact h
theorem code_nil (w : World) : Calls Tryz.prog 40 #[.nilIface] w fun e w' => e = .returned (.tuple #[.int .i64 0, .int .i64 (-1)]) ∧ w' = w := by
 go_enter Tryz.func40, Tryz.ntmps40
 go_wp2
 go_ret2
 exact ⟨rfl, rfl⟩
theorem code_err (a : Addr) (w : World) (s : Nat → Addr) (hs : Sent w s) (hh : Handle w) (ca : Array Value) (ta : TypeId) (ha : w.heap[a.block]? = some (.cells ca ta (0, 0))) :
  Calls Tryz.prog 40 #[err a] w fun e w' => (∃ c : Int, e = .returned (.tuple #[.int .i64 c, .int .i64 (-1)]) ∧ ((∃ i, i < 12 ∧ s i = a ∧ c = i + 1) ∨ ((∀ i, i < 12 → s i ≠ a) ∧ c = -1))) ∧ Below w.heap.size w w' := by
 have hsz := cell_lt hh
 have hA : ∀ t, Calls Tryz.prog 74 #[err a, .iface 143 (.pointer (some t))] (w.alloc (.cells #[.pointer none] 83)) fun ev w' => ev = .returned (.bool false) ∧ Below (w.alloc (.cells #[.pointer none] 83)).heap.size (w.alloc (.cells #[.pointer none] 83)) w' := fun t => by
  refine (as_miss a t _ (hh.below (Below.refl _ _ |>.alloc (Nat.le_refl _) _))).mono ?_
  rintro e w' ⟨rfl, rfl⟩
  exact ⟨rfl, (((Below.refl _ _).alloc (by simp) _).alloc (by simp) _).alloc (by simp) _⟩
 go_enter Tryz.func40, Tryz.ntmps40
 go_wp2_with (go_at_call 74; refine (hA _).mono ?_; rintro e w1 ⟨rfl, hb⟩; have hb0 : Below w.heap.size w w1 := ((Below.refl _ _).alloc (Nat.le_refl _) _).trans (hb.mono (by simp)); obtain ⟨c0, c1, c2, c3, c4, c5, c6, c7, c8, c9, c10, c11⟩ := (hs.below hb0).cells)
 have hs2 : Sent (w1.alloc (.cells #[err (s 0), err (s 1), err (s 2), err (s 3), err (s 4), err (s 5), err (s 6), err (s 7), err (s 8), err (s 9), err (s 10), err (s 11)] 32)) s := (hs.below hb0).below ((Below.refl _ _).alloc (Nat.le_refl _) _)
 have hb2 : Below w.heap.size w (w1.alloc (.cells #[err (s 0), err (s 1), err (s 2), err (s 3), err (s 4), err (s 5), err (s 6), err (s 7), err (s 8), err (s 9), err (s 10), err (s 11)] 32)) := hb0.alloc hb0.size _
 have hk2 : ∀ k, k < 12 → (w1.alloc (.cells #[err (s 0), err (s 1), err (s 2), err (s 3), err (s 4), err (s 5), err (s 6), err (s 7), err (s 8), err (s 9), err (s 10), err (s 11)] 32)).cell? ⟨w1.heap.size, k, none⟩ = some (err (s k)) := fun k hk => by
  rcases k with _ | _ | _ | _ | _ | _ | _ | _ | _ | _ | _ | _ | k <;> first | omega | simp
 have ha2 : (w1.alloc (.cells #[err (s 0), err (s 1), err (s 2), err (s 3), err (s 4), err (s 5), err (s 6), err (s 7), err (s 8), err (s 9), err (s 10), err (s 11)] 32)).heap[a.block]? = some (.cells ca ta (0, 0)) := by rw [hb2.block _ (block_lt ha)]; exact ha
 clear c0 c1 c2 c3 c4 c5 c6 c7 c8 c9 c10 c11 hb hA
 generalize (w1.alloc (.cells #[err (s 0), err (s 1), err (s 2), err (s 3), err (s 4), err (s 5), err (s 6), err (s 7), err (s 8), err (s 9), err (s 10), err (s 11)] 32)) = W2 at hs2 hb2 hk2 ha2 ⊢
 go_loop [3, 30] (fun c i => ∃ k : Nat, k ≤ 12 ∧ c = .int .i64 (-1) ∧ i = .int .i64 k ∧ ∀ j, j < k → s j ≠ a) (fun _ i => 12 - (intOf i).toNat)
 case atStart => exact ⟨0, by omega, rfl, rfl, fun j hj => by omega⟩
 case round =>
  obtain ⟨k, hk, rfl, rfl, hno⟩ := hrel
  by_cases hlt : k < 12
  ·have hck := hk2 k hlt
   obtain ⟨cb, tb, hbk⟩ := hs2.block k hlt
   by_cases he : s k = a
   ·go_wp2_with (go_at_call 75; refine (is_same a _).mono ?_; rintro e w' ⟨rfl, rfl⟩)
    go_ret2
    exact ⟨⟨_, rfl, Or.inl ⟨k, hlt, he, rfl⟩⟩, hb2⟩
   ·go_wp2_with (go_at_call 75; refine (is_other a (s k) ca cb ta tb _ (fun h => he h.symm) ha2 hbk).mono ?_; rintro e w' ⟨rfl, rfl⟩)
    go_round
    case rel => exact ⟨k + 1, by omega, rfl, by go_num, fun j hj => by
     rcases Nat.lt_succ_iff_lt_or_eq.1 hj with h | rfl
     ·exact hno j h
     ·exact he⟩
    case measure => simp [intOf]; omega
  ·go_wp2
   go_ret2
   exact ⟨⟨_, rfl, Or.inr ⟨fun i hi => hno i (by omega), rfl⟩⟩, hb2⟩
theorem code_fault (pb po : Nat) (n : Int) (a : Addr) (w : World) (s : Nat → Addr) (hs : Sent w s) (hh : Handle w) (hn : w.cell? ⟨pb, po, none⟩ = some (.int .i64 n)) (he : w.cell? ⟨pb, po + 1, none⟩ = some (err a)) (ca : Array Value) (ta : TypeId) (ha : w.heap[a.block]? = some (.cells ca ta (0, 0))) :
  Calls Tryz.prog 40 #[.iface 83 (.pointer (some ⟨pb, po, none⟩))] w fun e w' => (∃ c : Int, e = .returned (.tuple #[.int .i64 c, .int .i64 n]) ∧ ((∃ i, i < 12 ∧ s i = a ∧ c = i + 1) ∨ ((∀ i, i < 12 → s i ≠ a) ∧ c = -1))) ∧ Below w.heap.size w w' := by
 have hsz := cell_lt hh
 have hlt := cell_lt hn
 have hA : Calls Tryz.prog 74 #[.iface 83 (.pointer (some ⟨pb, po, none⟩)), .iface 143 (.pointer (some ⟨w.heap.size, 0, none⟩))] (w.alloc (.cells #[.pointer none] 83)) fun ev w' => ev = .returned (.bool true) ∧ Below w.heap.size w w' ∧ w'.cell? ⟨w.heap.size, 0, none⟩ = some (.pointer (some ⟨pb, po, none⟩)) := by
  refine (as_hit ⟨pb, po, none⟩ ⟨w.heap.size, 0, none⟩ (.pointer none) _ (hh.below (Below.refl _ _ |>.alloc (Nat.le_refl _) _)) (by simp) (by simp)).mono ?_
  rintro e w' ⟨rfl, rfl⟩
  refine ⟨rfl, (((((((Below.refl _ _).alloc (Nat.le_refl _) _).alloc (by simp) _).alloc (by simp; omega) _).alloc (by simp; omega) _).alloc (by simp; omega) _).setCell (by simp) _), ?_⟩
  exact World.cell?_setCell_same _ _ _ (u := .pointer none) (by rw [World.cell?_alloc_lt _ _ ⟨w.heap.size, 0, none⟩ (by simp; omega), World.cell?_alloc_lt _ _ ⟨w.heap.size, 0, none⟩ (by simp; omega), World.cell?_alloc_lt _ _ ⟨w.heap.size, 0, none⟩ (by simp; omega), World.cell?_alloc_lt _ _ ⟨w.heap.size, 0, none⟩ (by simp)]; simp)
 go_enter Tryz.func40, Tryz.ntmps40
 go_wp2_with (go_at_call 74; refine hA.mono ?_; rintro e w1 ⟨rfl, hb0, hf⟩; have hn1 := (hb0.cell (p := ⟨pb, po, none⟩) hlt).trans hn; obtain ⟨c0, c1, c2, c3, c4, c5, c6, c7, c8, c9, c10, c11⟩ := (hs.below hb0).cells)
 have hs2 : Sent (w1.alloc (.cells #[err (s 0), err (s 1), err (s 2), err (s 3), err (s 4), err (s 5), err (s 6), err (s 7), err (s 8), err (s 9), err (s 10), err (s 11)] 32)) s := (hs.below hb0).below ((Below.refl _ _).alloc (Nat.le_refl _) _)
 have hb2 : Below w.heap.size w (w1.alloc (.cells #[err (s 0), err (s 1), err (s 2), err (s 3), err (s 4), err (s 5), err (s 6), err (s 7), err (s 8), err (s 9), err (s 10), err (s 11)] 32)) := hb0.alloc hb0.size _
 have hk2 : ∀ k, k < 12 → (w1.alloc (.cells #[err (s 0), err (s 1), err (s 2), err (s 3), err (s 4), err (s 5), err (s 6), err (s 7), err (s 8), err (s 9), err (s 10), err (s 11)] 32)).cell? ⟨w1.heap.size, k, none⟩ = some (err (s k)) := fun k hk => by
  rcases k with _ | _ | _ | _ | _ | _ | _ | _ | _ | _ | _ | _ | k <;> first | omega | simp
 have ha2 : (w1.alloc (.cells #[err (s 0), err (s 1), err (s 2), err (s 3), err (s 4), err (s 5), err (s 6), err (s 7), err (s 8), err (s 9), err (s 10), err (s 11)] 32)).heap[a.block]? = some (.cells ca ta (0, 0)) := by rw [hb2.block _ (block_lt ha)]; exact ha
 have he2 : (w1.alloc (.cells #[err (s 0), err (s 1), err (s 2), err (s 3), err (s 4), err (s 5), err (s 6), err (s 7), err (s 8), err (s 9), err (s 10), err (s 11)] 32)).cell? ⟨pb, po + 1, none⟩ = some (err a) := (hb2.cell (p := ⟨pb, po + 1, none⟩) hlt).trans he
 clear c0 c1 c2 c3 c4 c5 c6 c7 c8 c9 c10 c11 hA he hn hn1 hf hb0
 generalize (w1.alloc (.cells #[err (s 0), err (s 1), err (s 2), err (s 3), err (s 4), err (s 5), err (s 6), err (s 7), err (s 8), err (s 9), err (s 10), err (s 11)] 32)) = W2 at hs2 hb2 hk2 ha2 he2 ⊢
 go_loop [3, 30] (fun c i => ∃ k : Nat, k ≤ 12 ∧ c = .int .i64 n ∧ i = .int .i64 k ∧ ∀ j, j < k → s j ≠ a) (fun _ i => 12 - (intOf i).toNat)
 case atStart => exact ⟨0, by omega, rfl, rfl, fun j hj => by omega⟩
 case round =>
  obtain ⟨k, hk, rfl, rfl, hno⟩ := hrel
  by_cases hlt : k < 12
  ·have hck := hk2 k hlt
   obtain ⟨cb, tb, hbk⟩ := hs2.block k hlt
   by_cases heq : s k = a
   ·go_wp2_with (go_at_call 75; refine (is_wrap_same pb po a _ he2).mono ?_; rintro e w' ⟨rfl, rfl⟩)
    go_ret2
    exact ⟨⟨_, rfl, Or.inl ⟨k, hlt, heq, rfl⟩⟩, hb2⟩
   ·go_wp2_with (go_at_call 75; refine (is_wrap_other pb po (s k) a ca cb ta tb _ he2 (fun h => heq h.symm) ha2 hbk).mono ?_; rintro e w' ⟨rfl, rfl⟩)
    go_round
    case rel => exact ⟨k + 1, by omega, rfl, by go_num, fun j hj => by
     rcases Nat.lt_succ_iff_lt_or_eq.1 hj with h | rfl
     ·exact hno j h
     ·exact heq⟩
    case measure => simp [intOf]; omega
  ·go_wp2
   go_ret2
   exact ⟨⟨_, rfl, Or.inr ⟨fun i hi => hno i (by omega), rfl⟩⟩, hb2⟩
theorem code_sent (i : Nat) (hi : i < 12) (w : World) (s : Nat → Addr) (hs : Sent w s) (hh : Handle w) :
  Calls Tryz.prog 40 #[err (s i)] w fun e w' => e = .returned (.tuple #[.int .i64 (i + 1 : Nat), .int .i64 (-1)]) ∧ Below w.heap.size w w' := by
 obtain ⟨ca, ta, ha⟩ := hs.block i hi
 refine (code_err (s i) w s hs hh ca ta ha).mono ?_
 rintro e w' ⟨⟨c, rfl, ⟨j, hj, hij, rfl⟩ | ⟨hno, rfl⟩⟩, hb⟩
 ·obtain rfl := hs.inj j i hj hi hij
  exact ⟨by simp, hb⟩
 ·exact absurd rfl (hno i hi)
theorem code_fault_sent (pb po : Nat) (n : Int) (i : Nat) (hi : i < 12) (w : World) (s : Nat → Addr) (hs : Sent w s) (hh : Handle w) (hn : w.cell? ⟨pb, po, none⟩ = some (.int .i64 n)) (he : w.cell? ⟨pb, po + 1, none⟩ = some (err (s i))) :
  Calls Tryz.prog 40 #[.iface 83 (.pointer (some ⟨pb, po, none⟩))] w fun e w' => e = .returned (.tuple #[.int .i64 (i + 1 : Nat), .int .i64 n]) ∧ Below w.heap.size w w' := by
 obtain ⟨ca, ta, ha⟩ := hs.block i hi
 refine (code_fault pb po n (s i) w s hs hh hn he ca ta ha).mono ?_
 rintro e w' ⟨⟨c, rfl, ⟨j, hj, hij, rfl⟩ | ⟨hno, rfl⟩⟩, hb⟩
 ·obtain rfl := hs.inj j i hj hi hij
  exact ⟨by simp, hb⟩
 ·exact absurd rfl (hno i hi)
end Go.Proofs.YtppodkkefegbkaaGreatDoor
namespace Go.Proofs.YtppodkkefegbkaaGreatDoor
open Go.RowKit (Below)
open Go.MapKept Go.ChangeMaps
open Go.Maps (Keyed)
abbrev Ent := Value × Value
def ents (es : Array MapEntry) : List Ent := es.toList.map fun x => (x.key, x.val)
def MapL (P : Program) (k : TypeId) (w : World) (b : Nat) (L : List Ent) : Prop :=
 ∃ es clock, w.heap[b]? = some (.map es clock) ∧ Stamped es clock ∧ (∀ x ∈ es.toList, ∃ l, keyOf P k x.key = some l) ∧ (ents es).Perm L
def RangeL (P : Program) (k : TypeId) (w : World) (b r : Nat) (L T : List Ent) : Prop :=
 ∃ es clock since seen c0, w.heap[b]? = some (.map es clock) ∧ Stamped es clock ∧ (∀ x ∈ es.toList, ∃ l, keyOf P k x.key = some l) ∧ (ents es).Perm L ∧
  w.heap[r]? = some (.mapIter (some b) since seen c0) ∧ (∀ x ∈ es.toList, x.born < since) ∧ (ents (leftOf es seen)).Perm T ∧ since ≤ c0 ∧ since ≤ clock
variable {P : Program} {k : TypeId} {w : World} {b r : Nat} {L T : List Ent}
theorem MapL.perm (h : MapL P k w b L) {L' : List Ent} (hp : L.Perm L') : MapL P k w b L' := by
 obtain ⟨es, clock, hb, hs, hk, hL⟩ := h
 exact ⟨es, clock, hb, hs, hk, hL.trans hp⟩
theorem MapL.lt (h : MapL P k w b L) : b < w.heap.size := by
 obtain ⟨es, clock, hb, _⟩ := h
 exact (Array.getElem?_eq_some_iff.1 hb).1
theorem MapL.of_block (h : MapL P k w b L) {w' : World} (he : w'.heap[b]? = w.heap[b]?) : MapL P k w' b L := by
 obtain ⟨es, clock, hb, rest⟩ := h
 exact ⟨es, clock, he.trans hb, rest⟩
theorem MapL.kept (h : MapL P k w b L) {w' : World} {row : Option Nat} (hg : w.grownBy w' row) (hne : some b ≠ row) : MapL P k w' b L := h.of_block (hg.block b h.lt hne)
theorem MapL.below (h : MapL P k w b L) {w' : World} {B : Nat} (hb : Below B w w') (hB : b < B) : MapL P k w' b L := h.of_block (hb.block b hB)
theorem MapL.made (P : Program) (k : TypeId) (w : World) : MapL P k (w.alloc (.map #[] 0)) w.heap.size [] :=
 ⟨#[], 0, Go.heap_alloc_new w _, stamped_empty 0, by simp, by simp [ents]⟩
theorem MapL.nodup (h : MapL P k w b L) : (L.map (·.1)).Nodup := by
 obtain ⟨es, clock, hb, hs, hk, hL⟩ := h
 refine (hL.map _).nodup_iff.1 ?_
 simpa [ents, Function.comp_def] using hs.2.2
theorem MapL.keys (h : MapL P k w b L) : ∀ x ∈ L, ∃ l, keyOf P k x.1 = some l := by
 obtain ⟨es, clock, hb, hs, hk, hL⟩ := h
 intro x hx
 obtain ⟨y, hy, rfl⟩ := List.mem_map.1 (hL.mem_iff.2 hx)
 exact hk y hy
theorem MapL.size_eq (h : MapL P k w b L) {es : Array MapEntry} {clock : Nat} (hb : w.heap[b]? = some (.map es clock)) : es.size = L.length := by
 obtain ⟨es', clock', hb', hs, hk, hL⟩ := h
 rw [hb] at hb'
 cases hb'
 have := hL.length_eq
 simpa [ents] using this
theorem MapL.ne_of_cells (h : MapL P k w b L) {p : Addr} {v : Value} (hc : w.cell? p = some v) : p.block ≠ b := by
 obtain ⟨es, clock, hb, _⟩ := h
 intro e
 subst e
 simp [World.cell?, hb] at hc
theorem turned_block {w w' : World} {b q : Nat} (h : w.mapTurned w' b) (hq : q ≠ b) : w'.heap[q]? = w.heap[q]? := by
 obtain ⟨es, clock, es', clock', hb, rfl⟩ := h
 exact heap_setBlock_other hb _ hq
theorem turned_cell {w w' : World} {b : Nat} {p : Addr} (h : w.mapTurned w' b) (hq : p.block ≠ b) : w'.cell? p = w.cell? p := World.cell?_of_block (turned_block h hq)
theorem turned_size {w w' : World} {b : Nat} (h : w.mapTurned w' b) : w'.heap.size = w.heap.size := by
 obtain ⟨es, clock, es', clock', hb, rfl⟩ := h
 simp [setBlock]
section
variable {t e : TypeId} (K : Keyed P k) (ht : P.underlying t = some (.map k e)) {key : Value} {kl : Lit} (hkey : keyOf P k key = some kl)
include K ht hkey
theorem MapL.look_hit (h : MapL P k w b L) {v : Value} (hm : (key, v) ∈ L) : (Instr.lookup t (.map (some b)) key false).run P w = .ok v w := by
 obtain ⟨es, clock, hb, hs, hk, hL⟩ := h
 obtain ⟨y, hy, ey⟩ := List.mem_map.1 (hL.mem_iff.2 hm)
 cases ey
 rcases K.find w hkey es.toList hk with ⟨f1, f2⟩ | ⟨j, e0, f1, f2, f3⟩
 ·exact absurd rfl (f2 y hy)
 ·have : e0 = y := entry_eq_of_key ((stamped_iff es clock).1 hs).2.2 (List.mem_of_getElem? f2) hy f3
  subst this
  simp [Instr.lookup, run_underlying ht, MapKept.run_getObj_map hb, K.check w _ hkey, f1, Result.andThen]
theorem MapL.look_miss (h : MapL P k w b L) {z : Value} (hz : (zeroValue e).run P w = .ok z w) (hm : ∀ v, (key, v) ∉ L) : (Instr.lookup t (.map (some b)) key false).run P w = .ok z w := by
 obtain ⟨es, clock, hb, hs, hk, hL⟩ := h
 rcases K.find w hkey es.toList hk with ⟨f1, f2⟩ | ⟨j, e0, f1, f2, f3⟩
 ·simp [Instr.lookup, run_underlying ht, MapKept.run_getObj_map hb, K.check w _ hkey, f1, hz, Result.andThen]
 ·exact absurd (hL.mem_iff.1 (List.mem_map.2 ⟨e0, List.mem_of_getElem? f2, by rw [f3]⟩)) (hm e0.val)
theorem MapL.store_old (h : MapL P k w b L) (v : Value) {u : Value} {L0 : List Ent} (hm : L.Perm ((key, u) :: L0)) : ∃ w', (Instr.mapUpdate t (.map (some b)) key v).run P w = .ok () w' ∧ MapL P k w' b ((key, v) :: L0) ∧ w.mapTurned w' b := by
 obtain ⟨es, clock, hb, hs, hk, hL⟩ := h
 obtain ⟨y, hy, ey⟩ := List.mem_map.1 ((hL.trans hm).mem_iff.2 (List.mem_cons_self ..))
 cases ey
 rcases K.find w hkey es.toList hk with ⟨f1, f2⟩ | ⟨j, e0, f1, f2, f3⟩
 ·exact absurd rfl (f2 y hy)
 ·obtain rfl : e0 = y := entry_eq_of_key ((stamped_iff es clock).1 hs).2.2 (List.mem_of_getElem? f2) hy f3
  have hj : es[j]? = some e0 := by simpa using f2
  have hjl : j < es.toList.length := (List.getElem?_eq_some_iff.1 f2).1
  have hlist : (es.modify j (fun e' => { e' with key := e0.key, val := v })).toList = es.toList.set j { e0 with key := e0.key, val := v } := by rw [Array.toList_modify, modify_eq_set _ _ _ _ f2]
  refine ⟨setBlock w b (.map (es.modify j (fun e' => { e' with key := e0.key, val := v })) clock), ?_, ⟨_, _, heap_setBlock_same hb _, stamped_modify hs _ _ (fun _ _ => rfl) (fun e' _ he' => by rw [hj] at he'; cases he'; rfl), ?_, ?_⟩, ⟨es, clock, _, _, hb, rfl⟩⟩
  ·simp [Instr.mapUpdate, run_underlying ht, MapKept.run_getObj_map hb, K.check w false hkey, f1, hj, K.stays w hkey, MapKept.run_setObj_map _ hb, Result.andThen, setBlock]
  ·intro x hx
   rw [hlist] at hx
   rcases List.mem_or_eq_of_mem_set hx with h | rfl
   ·exact hk x h
   ·exact ⟨_, hkey⟩
  ·unfold ents
   rw [hlist, List.map_set]
   refine (set_perm _ _ (by simpa using hjl) _).trans (List.Perm.cons _ ?_)
   have h1 : (ents es).Perm ((e0.key, e0.val) :: (ents es).eraseIdx j) := by
    have hget : (ents es)[j]? = some (e0.key, e0.val) := by unfold ents; rw [List.getElem?_map, f2]; rfl
    obtain ⟨hlt, hget'⟩ := List.getElem?_eq_some_iff.1 hget
    have := set_perm (ents es) j hlt (e0.key, e0.val)
    rwa [← hget', List.set_getElem_self, hget'] at this
   exact (h1.symm.trans (hL.trans hm)).cons_inv
theorem MapL.drop (h : MapL P k w b L) {u : Value} {L0 : List Ent} (hm : L.Perm ((key, u) :: L0)) : ∃ w', (∀ ty, (Builtin.delete_ #[t, k] ty #[.map (some b), key]).run P w = .ok (.tuple #[]) w') ∧ MapL P k w' b L0 ∧ w.mapTurned w' b := by
 obtain ⟨es, clock, hb, hs, hk, hL⟩ := h
 obtain ⟨y, hy, ey⟩ := List.mem_map.1 ((hL.trans hm).mem_iff.2 (List.mem_cons_self ..))
 cases ey
 rcases K.find w hkey es.toList hk with ⟨f1, f2⟩ | ⟨j, e0, f1, f2, f3⟩
 ·exact absurd rfl (f2 y hy)
 ·obtain rfl : e0 = y := entry_eq_of_key ((stamped_iff es clock).1 hs).2.2 (List.mem_of_getElem? f2) hy f3
  have hjl : j < es.toList.length := (List.getElem?_eq_some_iff.1 f2).1
  have hjs : j < es.size := by simpa using hjl
  have hsub : (es.eraseIdxIfInBounds j).toList = es.toList.eraseIdx j := by
   unfold Array.eraseIdxIfInBounds
   rw [dif_pos hjs]
   simp
  refine ⟨setBlock w b (.map (es.eraseIdxIfInBounds j) clock), ?_, ⟨_, _, heap_setBlock_same hb _, stamped_erase hs j, ?_, ?_⟩, ⟨es, clock, _, _, hb, rfl⟩⟩
  ·intro ty
   simp [Builtin.delete_, run_underlying ht, MapKept.run_getObj_map hb, K.check w _ hkey, f1, MapKept.run_setObj_map _ hb, Result.andThen, setBlock]
  ·intro x hx
   rw [hsub] at hx
   exact hk x ((List.eraseIdx_sublist _ _).subset hx)
  ·unfold ents
   rw [hsub, map_eraseIdx]
   have h1 : (ents es).Perm ((e0.key, e0.val) :: (ents es).eraseIdx j) := by
    have hget : (ents es)[j]? = some (e0.key, e0.val) := by unfold ents; rw [List.getElem?_map, f2]; rfl
    obtain ⟨hlt, hget'⟩ := List.getElem?_eq_some_iff.1 hget
    have := set_perm (ents es) j hlt (e0.key, e0.val)
    rwa [← hget', List.set_getElem_self, hget'] at this
   exact (h1.symm.trans (hL.trans hm)).cons_inv
end
theorem run_entryStore_at {t : TypeId} {w2 : World} {es : Array MapEntry} {clock j st : Nat} (hb : w2.heap[b]? = some (.map es clock)) (hidx : es.findIdx? (fun e => ((e.born : Nat) : Int) == ((st : Nat) : Int)) = some j) (val : Value) :
  (Instr.entryStore t (.map (some b)) (.int .i64 st) val).run P w2 = .ok () (setBlock w2 b (.map (es.modify j (fun e' => { e' with val := val })) clock)) := by
 simp [Instr.entryStore, MapKept.run_getObj_map hb, asInt, asIntOf, hidx, MapKept.run_setObj_map _ hb, Result.andThen, setBlock]
theorem setBlock_twice (w : World) (b : Nat) (o o' : Obj) : setBlock (setBlock w b o) b o' = setBlock w b o' := by simp [setBlock]
theorem MapL.entry_new {t e : TypeId} (K : Keyed P k) (ht : P.underlying t = some (.map k e)) {key : Value} {kl : Lit} (hkey : keyOf P k key = some kl) (h : MapL P k w b L) {z : Value} (hz : ∀ u : World, (zeroValue e).run P u = .ok z u) (hm : ∀ v, (key, v) ∉ L) :
  ∃ (st : Nat) (w2 : World), (Instr.mapEntry t (.map (some b)) key).run P w = .ok (.tuple #[z, .int .i64 st]) w2 ∧ (Instr.lookup t (.map (some b)) key false).run P w2 = .ok z w2 ∧ w.mapTurned w2 b ∧
   ∀ val, ∃ w3, (Instr.entryStore t (.map (some b)) (.int .i64 st) val).run P w2 = .ok () w3 ∧ MapL P k w3 b ((key, val) :: L) ∧ w.mapTurned w3 b := by
 obtain ⟨es, clock, hb, hs, hk, hL⟩ := h
 rcases K.find w hkey es.toList hk with ⟨f1, f2⟩ | ⟨j, e0, f1, f2, f3⟩
 ·have hb2 := heap_setBlock_same hb (Obj.map (es.push ⟨key, z, clock⟩) (clock + 1))
  have hkeys : ∀ v, ∀ x ∈ (es.push ⟨key, v, clock⟩).toList, ∃ l, keyOf P k x.key = some l := by
   intro v x hx
   simp only [Array.toList_push, List.mem_append, List.mem_singleton] at hx
   rcases hx with hx | rfl
   ·exact hk x hx
   ·exact ⟨_, hkey⟩
  have hperm : ∀ v, (ents (es.push ⟨key, v, clock⟩)).Perm ((key, v) :: L) := by
   intro v
   unfold ents
   rw [Array.toList_push, List.map_append]
   exact (List.perm_append_singleton _ _).trans (hL.cons _)
  have hpush : MapL P k (setBlock w b (.map (es.push ⟨key, z, clock⟩) (clock + 1))) b ((key, z) :: L) := ⟨_, _, hb2, stamped_push hs f2, hkeys z, hperm z⟩
  refine ⟨clock, setBlock w b (.map (es.push ⟨key, z, clock⟩) (clock + 1)), ?_, hpush.look_hit K ht hkey (List.mem_cons_self ..), ⟨es, clock, _, _, hb, rfl⟩, fun val => ⟨setBlock w b (.map (es.push ⟨key, val, clock⟩) (clock + 1)), ?_, ⟨_, _, heap_setBlock_same hb _, stamped_push hs f2, hkeys val, hperm val⟩, ⟨es, clock, _, _, hb, rfl⟩⟩⟩
  ·simp [Instr.mapEntry, run_underlying ht, MapKept.run_getObj_map hb, K.check w false hkey, f1, hz, MapKept.run_setObj_map _ hb, Result.andThen, setBlock, goInt]
  ·have hidx : (es.push ⟨key, z, clock⟩).findIdx? (fun e => ((e.born : Nat) : Int) == ((clock : Nat) : Int)) = some es.size := by
    rw [WideElems.findIdx_arr]
    exact WideElems.findIdx_born (l := (es.push ⟨key, z, clock⟩).toList) (j := es.size) (e0 := ⟨key, z, clock⟩) (stamped_push hs f2 (val := z)).2.1 (by simp)
   have hmod : (es.push ⟨key, z, clock⟩).modify es.size (fun e => { e with val := val }) = es.push ⟨key, val, clock⟩ := by
    apply Array.ext'
    rw [Array.toList_modify, Array.toList_push, Array.toList_push, ← Array.length_toList, WideElems.modify_last]
   rw [run_entryStore_at hb2 hidx, hmod, setBlock_twice]
 ·exact absurd (hL.mem_iff.1 (List.mem_map.2 ⟨e0, List.mem_of_getElem? f2, by rw [f3]⟩)) (hm e0.val)
theorem MapL.entry_old {t e : TypeId} (K : Keyed P k) (ht : P.underlying t = some (.map k e)) {key : Value} {kl : Lit} (hkey : keyOf P k key = some kl) (h : MapL P k w b L) {u : Value} {L0 : List Ent} (hm : L.Perm ((key, u) :: L0)) :
  ∃ (st : Nat) (w2 : World), (Instr.mapEntry t (.map (some b)) key).run P w = .ok (.tuple #[u, .int .i64 st]) w2 ∧ (Instr.lookup t (.map (some b)) key false).run P w2 = .ok u w2 ∧ w.mapTurned w2 b ∧
   ∀ val, ∃ w3, (Instr.entryStore t (.map (some b)) (.int .i64 st) val).run P w2 = .ok () w3 ∧ MapL P k w3 b ((key, val) :: L0) ∧ w.mapTurned w3 b := by
 have hst := fun val => h.store_old K ht hkey val hm
 obtain ⟨es, clock, hb, hs, hk, hL⟩ := h
 obtain ⟨y, hy, ey⟩ := List.mem_map.1 ((hL.trans hm).mem_iff.2 (List.mem_cons_self ..))
 cases ey
 rcases K.find w hkey es.toList hk with ⟨f1, f2⟩ | ⟨j, e0, f1, f2, f3⟩
 ·exact absurd rfl (f2 y hy)
 ·obtain rfl : e0 = y := entry_eq_of_key ((stamped_iff es clock).1 hs).2.2 (List.mem_of_getElem? f2) hy f3
  have hj : es[j]? = some e0 := by simpa using f2
  have hsame : es.modify j (fun e => { e with key := e0.key }) = es := by
   apply Array.ext'
   rw [Array.toList_modify, modify_eq_set _ _ _ _ f2]
   exact WideElems.set_self _ _ _ f2
  have hb2 := heap_setBlock_same hb (Obj.map es clock)
  have hM : MapL P k (setBlock w b (.map es clock)) b ((e0.key, e0.val) :: L0) := ⟨es, clock, hb2, hs, hk, hL.trans hm⟩
  refine ⟨e0.born, setBlock w b (.map es clock), ?_, hM.look_hit K ht hkey (List.mem_cons_self ..), ⟨es, clock, _, _, hb, rfl⟩, fun val => ⟨setBlock w b (.map (es.modify j (fun e' => { e' with val := val })) clock), ?_, ?_, ⟨es, clock, _, _, hb, rfl⟩⟩⟩
  ·simp [Instr.mapEntry, run_underlying ht, MapKept.run_getObj_map hb, K.check w false hkey, f1, hj, K.stays w hkey, hsame, MapKept.run_setObj_map _ hb, Result.andThen, setBlock, goInt]
  ·have hidx : es.findIdx? (fun e => ((e.born : Nat) : Int) == ((e0.born : Nat) : Int)) = some j := by
    rw [WideElems.findIdx_arr]
    exact WideElems.findIdx_born hs.2.1 f2
   rw [run_entryStore_at hb2 hidx, setBlock_twice]
  ·obtain ⟨w3, hrun, h3, _⟩ := hst val
   have hmod : es.modify j (fun e => { e with val := val }) = es.modify j (fun e' => { e' with key := e0.key, val := val }) := by
    apply Array.ext'
    rw [Array.toList_modify, Array.toList_modify, modify_eq_set _ _ _ _ f2, modify_eq_set _ _ _ _ f2]
   have : (Instr.mapUpdate t (.map (some b)) e0.key val).run P w = .ok () (setBlock w b (.map (es.modify j (fun e' => { e' with val := val })) clock)) := by
    rw [hmod]
    simp [Instr.mapUpdate, run_underlying ht, MapKept.run_getObj_map hb, K.check w false hkey, f1, hj, K.stays w hkey, MapKept.run_setObj_map _ hb, Result.andThen, setBlock]
   rw [hrun] at this
   cases this
   exact h3
theorem MapL.len (h : MapL P k w b L) {t e : TypeId} (ht : P.underlying t = some (.map k e)) (ty : TypeId) : (Builtin.len_ #[t] ty #[.map (some b)]).run P w = .ok (.int .i64 L.length) w := by
 have h' := h
 obtain ⟨es, clock, hb, _⟩ := h
 rw [← h'.size_eq hb]
 simp [Builtin.len_, run_underlying ht, MapKept.run_getObj_map hb, goInt, Result.andThen]
theorem MapL.range (h : MapL P k w b L) {t e : TypeId} (ht : P.underlying t = some (.map k e)) :
  ∃ w', (Instr.range t (.map (some b))).run P w = .ok (.pointer (some ⟨w.heap.size, 0, none⟩)) w' ∧ RangeL P k w' b w.heap.size L L ∧ w.grownBy w' none ∧ w'.heap.size = w.heap.size + 1 := by
 have hlt := h.lt
 obtain ⟨es, clock, hb, hs, hk, hL⟩ := h
 refine ⟨_, run_range_map w t k e b es clock ht hb, ⟨es, clock, clock, #[], clock, ((MapKept.heap_alloc w _).2 b hlt).trans hb, hs, hk, hL, Go.heap_alloc_new w _, hs.1, ?_, Nat.le_refl _, Nat.le_refl _⟩, World.grownBy_alloc w _ none, by simp⟩
 have : leftOf es #[] = es := by unfold leftOf; simp
 rw [this]; exact hL
theorem RangeL.map (h : RangeL P k w b r L T) : MapL P k w b L := by
 obtain ⟨es, clock, since, seen, c0, hb, hs, hk, hL, _⟩ := h
 exact ⟨es, clock, hb, hs, hk, hL⟩
theorem RangeL.lt (h : RangeL P k w b r L T) : r < w.heap.size := by
 obtain ⟨es, clock, since, seen, c0, hb, hs, hk, hL, hr, _⟩ := h
 exact (Array.getElem?_eq_some_iff.1 hr).1
theorem RangeL.ne (h : RangeL P k w b r L T) : r ≠ b := by
 obtain ⟨es, clock, since, seen, c0, hb, hs, hk, hL, hr, _⟩ := h
 intro e; rw [e, hb] at hr; cases hr
theorem RangeL.left_eq (h : RangeL P k w b r L T) : w.rangeLeft b r = T.length := by
 obtain ⟨es, clock, since, seen, c0, hb, hs, hk, hL, hr, _, hT, _⟩ := h
 simp only [World.rangeLeft, hb, hr]
 have := hT.length_eq
 simpa [ents] using this
theorem RangeL.kept (h : RangeL P k w b r L T) {w' : World} {row : Option Nat} (hg : w.grownBy w' row) (hb' : some b ≠ row) (hr' : some r ≠ row) : RangeL P k w' b r L T := by
 have h1 := h.map.lt
 have h2 := h.lt
 obtain ⟨es, clock, since, seen, c0, hb, hs, hk, hL, hr, rest⟩ := h
 exact ⟨es, clock, since, seen, c0, (hg.block b h1 hb').trans hb, hs, hk, hL, (hg.block r h2 hr').trans hr, rest⟩
theorem RangeL.below (h : RangeL P k w b r L T) {w' : World} {B : Nat} (hB : Below B w w') (h1 : b < B) (h2 : r < B) : RangeL P k w' b r L T := by
 obtain ⟨es, clock, since, seen, c0, hb, hs, hk, hL, hr, rest⟩ := h
 exact ⟨es, clock, since, seen, c0, (hB.block b h1).trans hb, hs, hk, hL, (hB.block r h2).trans hr, rest⟩
theorem left_out (e : MapEntry) : ∀ l : List MapEntry, (l.map (·.born)).Nodup → e ∈ l → l.Perm (e :: l.filter fun x => !(x.born == e.born))
 | x :: l, hn, he => by
  obtain ⟨h1, h2⟩ : x.born ∉ l.map (·.born) ∧ (l.map (·.born)).Nodup := List.nodup_cons.1 hn
  rcases List.mem_cons.1 he with rfl | h
  ·have : l.filter (fun x => !(x.born == e.born)) = l := List.filter_eq_self.2 (fun y hy => by
    have : y.born ≠ e.born := fun c => h1 (List.mem_map.2 ⟨y, hy, c⟩)
    simpa using this)
   simp [this]
  ·have hx : (x.born == e.born) = false := by
    cases hc : x.born == e.born with
    | false => rfl
    | true => exact absurd (List.mem_map.2 ⟨e, h, (beq_iff_eq.1 hc).symm⟩) h1
   rw [List.filter_cons_of_pos (by simp [hx])]
   exact ((left_out e l h2 h).cons x).trans (List.Perm.swap _ _ _)
theorem RangeL.next (h : RangeL P k w b r L T) (ty : TypeId) :
  (T = [] ∧ (Instr.next (.pointer (some ⟨r, 0, none⟩)) false ty).run P w = .ok (.tuple #[.bool false]) w) ∨
  ∃ x T' w', T.Perm (x :: T') ∧ (Instr.next (.pointer (some ⟨r, 0, none⟩)) false ty).run P w = .ok (.tuple #[.bool true, x.1, x.2]) w' ∧ RangeL P k w' b r L T' ∧ w.grownBy w' (some r) ∧ w'.heap.size = w.heap.size ∧ (Instr.entry (.pointer (some ⟨r, 0, none⟩))).run P w' = .ok (.tuple #[x.1, x.2]) w' := by
 have hne := h.ne
 obtain ⟨es, clock, since, seen, c0, hb, hs, hk, hL, hr, hold, hT, hsc, hsk⟩ := h
 have hst := (stamped_iff es clock).1 hs
 rcases run_next_at (P := P) w ty r b since c0 seen es clock hr hb hold hsc with ⟨h0, hrun⟩ | ⟨e, he, w1, hal, hrun⟩
 ·refine Or.inl ⟨?_, hrun⟩
  have : leftOf es seen = #[] := Array.eq_empty_of_size_eq_zero h0
  rw [this] at hT
  exact (List.nil_perm.1 hT)
 ·obtain ⟨hem, hes⟩ := mem_left he
  have hr1 : w1.heap[r]? = some (.mapIter (some b) since seen c0) := by rcases hal with rfl | rfl <;> exact hr
  have hb1 : w1.heap[b]? = some (.map es clock) := by rcases hal with rfl | rfl <;> exact hb
  have hset := heap_set (o' := .mapIter (some b) since (seen.push e.born) clock) hr1
  have hb' : (setBlock w1 r (.mapIter (some b) since (seen.push e.born) clock)).heap[b]? = some (.map es clock) := (hset.2 b (fun e1 => hne e1.symm)).trans hb1
  have hleft : (leftOf es (seen.push e.born)).toList = (leftOf es seen).toList.filter (fun x => !(x.born == e.born)) := by
   unfold leftOf
   rw [Array.toList_filter, Array.toList_filter, List.filter_filter]
   refine List.filter_congr fun x hx => ?_
   rw [contains_push]
   cases seen.contains x.born <;> cases (x.born == e.born) <;> rfl
  have hnd : ((leftOf es seen).toList.map (·.born)).Nodup := by
   unfold leftOf
   rw [Array.toList_filter]
   exact (List.filter_sublist.map _).nodup hst.2.1
  refine Or.inr ⟨(e.key, e.val), ents (leftOf es (seen.push e.born)), _, ?_, hrun, ⟨es, clock, since, seen.push e.born, clock, hb', hs, hk, hL, hset.1, hold, List.Perm.refl _, hsk, hsk⟩, ?_, ?_, run_entry_at _ r b since seen es clock e hset.1 hb' hem hst.2.1⟩
  ·refine hT.symm.trans ?_
   unfold ents
   rw [hleft]
   exact (left_out e _ hnd he).map (fun x : MapEntry => (x.key, x.val))
  ·rcases hal with rfl | rfl <;> exact ⟨rfl, rfl, rfl, by simp [setBlock], fun i _ hi => hset.2 i (fun e1 => hi (by rw [e1]))⟩
  ·rcases hal with rfl | rfl <;> simp [setBlock]
section
variable {w : World} {ops : Array Oper} {rest : List Oper} {o : Oper} {a : Act} {Q : Exit → Act → World → Prop}
theorem wpL_range (hg : o.guard = none) (m : Operand) (t : TypeId) (hop : o.op = Op.range t m) (k e : TypeId) (ht : P.underlying t = some (.map k e)) (b : Nat) (L : List Ent) (hm : a.eval m = .map (some b)) (h : MapL P k w b L)
  (hK : ∀ w', RangeL P k w' b w.heap.size L L → w.grownBy w' none → w'.heap.size = w.heap.size + 1 → wpList P ops Q rest (a.put o.dst (.pointer (some ⟨w.heap.size, 0, none⟩))) w') : wpList P ops Q (o :: rest) a w := by
 refine wpList_plain hg fun K' hK' => ?_
 obtain ⟨w', hrun, r1, r2, r3⟩ := h.range ht
 unfold Oper.wp
 simp [execOp, hop, hm, hrun, Result.andThen]
 exact hK' _ _ (hK w' r1 r2 r3)
theorem wpL_next (hg : o.guard = none) (it : Operand) (hop : o.op = Op.next it false) (k : TypeId) (b r : Nat) (L T : List Ent) (hit : a.eval it = .pointer (some ⟨r, 0, none⟩)) (h : RangeL P k w b r L T)
  (hDone : T = [] → wpList P ops Q rest (a.put o.dst (.tuple #[.bool false])) w)
  (hMore : ∀ x T' w', T.Perm (x :: T') → RangeL P k w' b r L T' → w.grownBy w' (some r) → w'.heap.size = w.heap.size → (Instr.entry (.pointer (some ⟨r, 0, none⟩))).run P w' = .ok (.tuple #[x.1, x.2]) w' → wpList P ops Q rest (a.put o.dst (.tuple #[.bool true, x.1, x.2])) w') : wpList P ops Q (o :: rest) a w := by
 refine wpList_plain hg fun K' hK' => ?_
 unfold Oper.wp
 rcases h.next o.type with ⟨h0, hrun⟩ | ⟨x, T', w', hp, hrun, hrg, hgr, hsz, hen⟩
 ·simp [execOp, hop, hit, hrun, Result.andThen]
  exact hK' _ _ (hDone h0)
 ·simp [execOp, hop, hit, hrun, Result.andThen]
  exact hK' _ _ (hMore x T' w' hp hrg hgr hsz hen)
theorem stepL_delete {K : Act → World → Prop} {Q' : Exit → Act → World → Prop} {E : Prop} (hg : o.guard = none) (m x : Operand) (t k : TypeId) (hop : o.op = Op.call { callee := Callee.builtin Builtin.delete, args := #[m, x], argTypes := #[t, k] }) (b : Nat) (key : Value) (hm : a.eval m = .map (some b)) (hx : a.eval x = key) (w' : World)
  (hr : ∀ ty, (Builtin.delete_ #[t, k] ty #[.map (some b), key]).run P w = .ok (.tuple #[]) w') (hK : K (a.put o.dst (.tuple #[])) w') : if Region.wanted o (yielded ops a.tmps) = true then Oper.wp P o a w K Q' else E := by
 have hw : Region.wanted o (yielded ops a.tmps) = true := by simp [Region.wanted, hg]
 rw [if_pos hw]
 unfold Oper.wp
 simp [execOp, hop, resolve, invoke, builtin, hm, hx, hr o.type, Result.andThen]
 exact hK
theorem wpL_len (hg : o.guard = none) (m : Operand) (t : TypeId) (hop : o.op = Op.call { callee := Callee.builtin Builtin.len, args := #[m], argTypes := #[t] }) (k e : TypeId) (ht : P.underlying t = some (.map k e)) (b : Nat) (L : List Ent) (N : Nat) (hN : L.length = N) (hm : a.eval m = .map (some b)) (h : MapL P k w b L)
  (hK : wpList P ops Q rest (a.put o.dst (.int .i64 N)) w) : wpList P ops Q (o :: rest) a w := by
 subst hN
 refine wpList_plain hg fun K' hK' => ?_
 unfold Oper.wp
 simp [execOp, hop, resolve, invoke, builtin, hm, h.len ht o.type, Result.andThen]
 exact hK' _ _ hK
theorem wpL_look (hg : o.guard = none) (m x : Operand) (t : TypeId) (hop : o.op = Op.lookup t m x false) (b : Nat) (key v : Value) (hm : a.eval m = .map (some b)) (hx : a.eval x = key) (hr : (Instr.lookup t (.map (some b)) key false).run P w = .ok v w)
  (hK : wpList P ops Q rest (a.put o.dst v) w) : wpList P ops Q (o :: rest) a w := by
 refine wpList_plain hg fun K' hK' => ?_
 unfold Oper.wp
 simp [execOp, hop, hm, hx, hr, Result.andThen]
 exact hK' _ _ hK
end
end Go.Proofs.YtppodkkefegbkaaGreatDoor
namespace Go.Proofs.YtppodkkefegbkaaGreatDoor
open Go.RowKit Go.Lib
structure Off (x : List Nat) (w w' : World) : Prop where
 os : w'.os = w.os
 tape : w'.tape = w.tape
 output : w'.output = w.output
 size : w.heap.size ≤ w'.heap.size
 block : ∀ k, k < w.heap.size → k ∉ x → w'.heap[k]? = w.heap[k]?
theorem Off.refl (x : List Nat) (w : World) : Off x w w := ⟨rfl, rfl, rfl, Nat.le_refl _, fun _ _ _ => rfl⟩
theorem Off.of_below {x : List Nat} {w w' : World} (h : Below w.heap.size w w') : Off x w w' := ⟨h.os, h.tape, h.output, h.size, fun k hk _ => h.block k hk⟩
theorem Off.trans {x : List Nat} {w w' w'' : World} (h : Off x w w') (h' : Off x w' w'') : Off x w w'' :=
 ⟨h'.os.trans h.os, h'.tape.trans h.tape, h'.output.trans h.output, Nat.le_trans h.size h'.size, fun k hk hx => (h'.block k (Nat.lt_of_lt_of_le hk h.size) hx).trans (h.block k hk hx)⟩
theorem Off.mono {x y : List Nat} {w w' : World} (h : Off x w w') (hxy : ∀ k ∈ x, k ∈ y) : Off y w w' := ⟨h.os, h.tape, h.output, h.size, fun k hk hy => h.block k hk fun e => hy (hxy k e)⟩
theorem Off.below {x : List Nat} {w w' : World} {B : Nat} (h : Off x w w') (hB : B ≤ w.heap.size) (hx : ∀ k ∈ x, B ≤ k) : Below B w w' := ⟨h.os, h.tape, h.output, h.size, fun k hk => h.block k (Nat.lt_of_lt_of_le hk hB) fun e => by have := hx k e; omega⟩
theorem Off.set {x : List Nat} {w w' : World} (h : Off x w w') {p o : Nat} (hp : p ∈ x) (v : Value) : Off x w (w'.setCell ⟨p, o, none⟩ v) := by
 refine h.trans ⟨rfl, rfl, rfl, by rw [World.size_setCell]; exact Nat.le_refl _, fun k hk hx => Below.heap_setCell w' ⟨p, o, none⟩ v k (fun e => hx (e ▸ hp))⟩
end Go.Proofs.YtppodkkefegbkaaGreatDoor
namespace Go.Proofs.YtppodkkefegbkaaGreatDoor
open Go.Sort
variable {α : Type} [Inhabited α] {lt : α → α → Bool}
def Agree (lt lt' : α → α → Bool) (a m b : Nat) (d : Array α) : Prop := ∀ i j, a ≤ i → i < m → m ≤ j → j < b → lt' d[j]! d[i]! = lt d[j]! d[i]!
def MergedS (lt : α → α → Bool) (a m b : Nat) (d d' : Array α) : Prop := ∀ lt' : α → α → Bool, SWO lt' → Agree lt lt' a m b d → Merged lt' a m b d d'
theorem MergedS.own {a m b : Nat} {d d' : Array α} (h : MergedS lt a m b d d') (hS : SWO lt) : Merged lt a m b d d' := h lt hS fun _ _ _ _ _ _ => rfl
theorem MergedS.none (lt : α → α → Bool) {a m b : Nat} (d : Array α) (h : m ≤ a ∨ b ≤ m) (h1 : a ≤ m) (h2 : m ≤ b) : MergedS lt a m b d d := fun lt' _ _ => Merged.none lt' d h h1 h2
theorem mergedS_one_left {a b i : Nat} {d d' : Array α} (hab : a + 1 ≤ i) (hib : i ≤ b) (hp : PermIn a b d d') (hr : Rot d d' a (a + 1) i) (h1 : a + 1 < i → lt d[i - 1]! d[a]! = true) (h2 : i < b → lt d[i]! d[a]! = false) : MergedS lt a (a + 1) b d d' := fun lt' hS hA =>
 merged_one_left hS hab hib hp hr (fun h => by rw [hA a (i - 1) (Nat.le_refl _) (Nat.lt_succ_self _) (by omega) (by omega)]; exact h1 h) (fun h => by rw [hA a i (Nat.le_refl _) (Nat.lt_succ_self _) hab h]; exact h2 h)
theorem mergedS_one_right {a m i : Nat} {d d' : Array α} (hai : a ≤ i) (him : i ≤ m) (hp : PermIn a (m + 1) d d') (hr : Rot d d' i m (m + 1)) (h1 : a < i → lt d[m]! d[i - 1]! = false) (h2 : i < m → lt d[m]! d[i]! = true) : MergedS lt a m (m + 1) d d' := fun lt' hS hA =>
 merged_one_right hS hai him hp hr (fun h => by rw [hA (i - 1) m (by omega) (by omega) (Nat.le_refl _) (Nat.lt_succ_self _)]; exact h1 h) (fun h => by rw [hA i m hai h (Nat.le_refl _) (Nat.lt_succ_self _)]; exact h2 h)
theorem mergedS_mid {a m b mid lo hi start : Nat} {d d1 d2 d3 : Array α} (hb : b ≤ d.size) (ham : a < m) (hmb : m < b) (hmid : mid = (a + b) / 2)
  (hc : (mid < m ∧ lo = mid + m - b ∧ hi = mid) ∨ (m ≤ mid ∧ lo = a ∧ hi = m)) (hl : lo ≤ start) (hh : start ≤ hi)
  (h1 : lo < start → lt d[mid + m - start]! d[start - 1]! = false) (h2 : start < hi → lt d[mid + m - 1 - start]! d[start]! = true)
  (hp : PermIn start (mid + m - start) d d1) (hr : Rot d d1 start m (mid + m - start)) (m1 : MergedS lt a start mid d1 d2) (m2 : MergedS lt mid (mid + m - start) b d2 d3) : MergedS lt a m b d d3 := fun lt' hS hA => by
 obtain ⟨en, he⟩ : ∃ en, mid + m - start = en := ⟨_, rfl⟩
 have f1 : a ≤ start ∧ start ≤ mid ∧ start ≤ m ∧ m ≤ en ∧ mid ≤ en ∧ en ≤ b ∧ start + (en - m) = mid ∧ a ≤ mid ∧ mid ≤ b := by omega
 obtain ⟨f1, f2, f3, f4, f5, f6, f7, f8, f9⟩ := f1
 have g1 : lo < start → en < b ∧ a ≤ start - 1 ∧ start - 1 < m := fun h => by omega
 have g2 : start < hi → start < m ∧ mid + m - 1 - start = en - 1 ∧ m ≤ en - 1 := fun h => by omega
 have n1 : Merged lt' a start mid d1 d2 := by
  refine m1 lt' hS fun i j q1 q2 q3 q4 => ?_
  rw [he] at hr
  have v1 : d1[i]! = d[i]! := hr.out_at (Or.inl q2)
  have v2 : d1[j]! = d[j + (m - start)]! := hr.lo_at q3 (by omega) (by omega)
  rw [v1, v2]
  exact hA i _ q1 (by omega) (by omega) (by omega)
 have n2 : Merged lt' mid (mid + m - start) b d2 d3 := by
  refine m2 lt' hS fun i j q1 q2 q3 q4 => ?_
  rw [he] at hr q2 q3
  have o1 : ∀ x, mid ≤ x → d2[x]! = d1[x]! := fun x k => n1.1.2.1 x (Or.inr k)
  have v1 : d1[i]! = d[i - (en - m)]! := hr.hi_at (by omega) (by omega) q2
  have v2 : d1[j]! = d[j]! := hr.out_at (Or.inr q3)
  rw [o1 i q1, o1 j (by omega), v1, v2]
  exact hA _ j (by omega) (by omega) (by omega) q4
 refine merged_mid hS hb ham hmb hmid hc hl hh (fun h => ?_) (fun h => ?_) hp hr n1 n2
 ·obtain ⟨k1, k2, k3⟩ := g1 h
  rw [hA (start - 1) (mid + m - start) k2 k3 (by omega) (by omega)]; exact h1 h
 ·obtain ⟨k1, k2, k3⟩ := g2 h
  rw [hA start (mid + m - 1 - start) f1 k1 (by omega) (by omega)]; exact h2 h
theorem insInner_perm (lt : α → α → Bool) {a i : Nat} : ∀ (j : Nat) (d : Array α), j ≤ i → i < d.size → PermIn a (i + 1) d (insInner lt a j d)
 | 0, d, _, _ => by unfold insInner; exact permIn_refl d a _
 | j + 1, d, hj, hi => by
  unfold insInner
  split
  ·rename_i hc
   simp only [Bool.and_eq_true, decide_eq_true_eq] at hc
   exact permIn_trans _ _ _ a (i + 1) (swp_permIn d a (i + 1) (j + 1) j (by omega) (by omega) (by omega) (by omega) (by omega)) (insInner_perm lt j _ (by omega) (by rw [swp_size]; exact hi))
  ·exact permIn_refl d a _
theorem insInner_agree {lt' : α → α → Bool} {a : Nat} : ∀ (j : Nat) (d : Array α), j < d.size → (∀ p, a ≤ p → p < j → lt' d[j]! d[p]! = lt d[j]! d[p]!) → insInner lt' a j d = insInner lt a j d
 | 0, d, _, _ => by unfold insInner; rfl
 | j + 1, d, hj, h => by
  unfold insInner
  by_cases ha : j + 1 > a
  ·rw [h j (by omega) (Nat.lt_succ_self _)]
   split
   ·refine insInner_agree j _ (by rw [swp_size]; omega) fun p hp hpj => ?_
    have g := swp_get d hj (show j < d.size by omega)
    rw [g, g, if_pos rfl, if_neg (by omega), if_neg (by omega)]
    exact h p hp (by omega)
   ·rfl
  ·rw [decide_eq_false ha, Bool.false_and, Bool.false_and, if_neg Bool.false_ne_true, if_neg Bool.false_ne_true]
theorem insOuter_agree {lt' : α → α → Bool} {a b : Nat} : ∀ (n i : Nat) (d : Array α), b - i = n → a < i → b ≤ d.size → (∀ p q, a ≤ p → p < q → i ≤ q → q < b → lt' d[q]! d[p]! = lt d[q]! d[p]!) → insOuter lt' a b i d = insOuter lt a b i d
 | 0, i, d, hn, _, _, _ => by
  rw [insOuter, if_neg (by omega), insOuter, if_neg (by omega)]
 | n + 1, i, d, hn, hai, hb, h => by
  have hlt : i < b := by omega
  rw [insOuter, if_pos hlt]
  conv => rhs; rw [insOuter, if_pos hlt]
  rw [insInner_agree i d (by omega) fun p hp hpi => h p i hp hpi (Nat.le_refl _) hlt]
  have hP : PermIn a (i + 1) d (insInner lt a i d) := insInner_perm lt i d (Nat.le_refl _) (by omega)
  refine insOuter_agree n (i + 1) _ (by omega) (by omega) (by rw [hP.1]; exact hb) fun p q hp hpq hq hqb => ?_
  rw [hP.2.1 q (Or.inr hq)]
  by_cases hpi : p < i + 1
  ·exact permIn_all d _ a (i + 1) (fun x => lt' d[q]! x = lt d[q]! x) (by omega) hP (fun x h1 h2 => h x q h1 (by omega) (by omega) hqb) p hp hpi
  ·rw [hP.2.1 p (Or.inr (by omega))]
   exact h p q hp hpq (by omega) hqb
theorem insertion_agree {lt' : α → α → Bool} {a b : Nat} {d : Array α} (hb : b ≤ d.size) (h : ∀ p q, a ≤ p → p < q → q < b → lt' d[q]! d[p]! = lt d[q]! d[p]!) : insertionSort lt' d a b = insertionSort lt d a b := by
 unfold insertionSort
 exact insOuter_agree _ _ d rfl (Nat.lt_succ_self _) hb fun p q h1 h2 _ h4 => h p q h1 h2 h4
def StablyS (lt : α → α → Bool) (n : Nat) (d d' : Array α) : Prop := PermIn 0 n d d' ∧ ∀ lt' : α → α → Bool, SWO lt' → (∀ p q, p < q → q < n → lt' d[q]! d[p]! = lt d[q]! d[p]!) → SortedIn lt' 0 n d'
theorem stablyS_one (hS : SWO lt) {n : Nat} {d : Array α} (hn : n ≤ d.size) : StablyS lt n d (insertionSort lt d 0 n) := by
 refine ⟨(insertionSort_holds hS d 0 n (Nat.zero_le _) hn).1, fun lt' hS' h => ?_⟩
 rw [← insertion_agree (lt' := lt') hn fun p q _ h2 h3 => h p q h2 h3]
 exact (insertionSort_holds hS' d 0 n (Nat.zero_le _) hn).2
theorem insS_none {n : Nat} {d : Array α} : insertionSort lt d n n = d := by
 unfold insertionSort
 rw [insOuter, if_neg (by omega)]
theorem stablyS_two (hS : SWO lt) {n : Nat} {d d' : Array α} (h20 : 20 ≤ n) (hn : n ≤ d.size) (hm : MergedS lt 0 20 n (insertionSort lt (insertionSort lt d 0 20) 20 n) d') : StablyS lt n d d' := by
 obtain ⟨p1, _⟩ := insertionSort_holds hS d 0 20 (Nat.zero_le _) (by omega)
 have z1 : (insertionSort lt d 0 20).size = d.size := p1.1
 obtain ⟨p2, _⟩ := insertionSort_holds hS (insertionSort lt d 0 20) 20 n h20 (by omega)
 refine ⟨?_, fun lt' hS' h => ?_⟩
 ·exact permIn_trans _ _ _ 0 n (permIn_mono _ _ 0 20 0 n (Nat.le_refl _) h20 hn p1) (permIn_trans _ _ _ 0 n (permIn_mono _ _ 20 n 0 n (Nat.zero_le _) (Nat.le_refl _) (by omega) p2) (hm.own hS).1)
 ·have e1 : insertionSort lt' d 0 20 = insertionSort lt d 0 20 := insertion_agree (by omega) fun p q _ h2 h3 => h p q h2 (by omega)
  obtain ⟨_, s1⟩ := insertionSort_holds hS' d 0 20 (Nat.zero_le _) (by omega)
  rw [e1] at s1
  generalize insertionSort lt d 0 20 = d1 at *
  have hd1 : ∀ x, 20 ≤ x → d1[x]! = d[x]! := fun x hx => p1.2.1 x (Or.inr hx)
  have e2 : insertionSort lt' d1 20 n = insertionSort lt d1 20 n := insertion_agree (by omega) fun p q h1 h2 h3 => by
   rw [hd1 p h1, hd1 q (by omega)]; exact h p q h2 h3
  obtain ⟨_, s2⟩ := insertionSort_holds hS' d1 20 n h20 (by omega)
  rw [e2] at s2
  generalize insertionSort lt d1 20 n = d2 at *
  have hd2 : ∀ x, x < 20 → d2[x]! = d1[x]! := fun x hx => p2.2.1 x (Or.inl hx)
  have c1 : ∀ j, 20 ≤ j → j < n → ∀ i, 0 ≤ i → i < 20 → lt' d[j]! d1[i]! = lt d[j]! d1[i]! := fun j h1 h2 =>
   permIn_all d d1 0 20 (fun x => lt' d[j]! x = lt d[j]! x) (by omega) p1 fun i _ h3 => h i j (by omega) h2
  have c2 : ∀ i, i < 20 → ∀ j, 20 ≤ j → j < n → lt' d2[j]! d1[i]! = lt d2[j]! d1[i]! := fun i h1 =>
   permIn_all d1 d2 20 n (fun y => lt' y d1[i]! = lt y d1[i]!) (by omega) p2 fun j h2 h3 => by rw [hd1 j h2]; exact c1 j h2 h3 i (Nat.zero_le _) h1
  have hM := hm lt' hS' fun i j _ h1 h2 h3 => by rw [hd2 i h1]; exact c2 i h1 j h2 h3
  exact hM.2.1 (SortedIn.congr_in s1 fun x _ hx => hd2 x hx) s2
end Go.Proofs.YtppodkkefegbkaaGreatDoor
namespace Go.Proofs.YtppodkkefegbkaaGreatDoor
open Go.Shelf Go.RowKit Go.Lib Go.Sort
variable {P : Program} {k : Nat} {α : Type} [Inhabited α]
structure StC (P : Program) (k : Nat) : Prop where
 mixed : P.follows .mixedOrders = true
 fS : P.funcs[134]? = some Tryz.f134
 fR : P.funcs[122]? = some Tryz.f122
 fM : P.funcs[110]? = some Tryz.f110
 t0 : P.underlying 0 = some (TypeDesc.tuple #[])
 a0 : ∀ w, (isAgg 0).run P w = .ok false w
 z0 : ∀ w, (Go.sizeOf 0).run P w = .ok 1 w
 v0 : ∀ w, (zeroValue 0).run P w = .ok (Value.tuple #[]) w
 t3 : P.underlying 3 = some (TypeDesc.int IntKind.i64)
 a3 : ∀ w, (isAgg 3).run P w = .ok false w
 z3 : ∀ w, (Go.sizeOf 3).run P w = .ok 1 w
 v3 : ∀ w, (zeroValue 3).run P w = .ok (Value.int IntKind.i64 0) w
 t4 : P.underlying 4 = some (TypeDesc.bool)
 a4 : ∀ w, (isAgg 4).run P w = .ok false w
 z4 : ∀ w, (Go.sizeOf 4).run P w = .ok 1 w
 v4 : ∀ w, (zeroValue 4).run P w = .ok (Value.bool false) w
 tU : P.underlying 106 = some (TypeDesc.int IntKind.u64)
 aU : ∀ w, (isAgg 106).run P w = .ok false w
 zU : ∀ w, (Go.sizeOf 106).run P w = .ok 1 w
 vU : ∀ w, (zeroValue 106).run P w = .ok (Value.int IntKind.u64 0) w
 tL : P.underlying 109 = some (TypeDesc.slice 114)
 aL : ∀ w, (isAgg 109).run P w = .ok false w
 zL : ∀ w, (Go.sizeOf 109).run P w = .ok 1 w
 vL : ∀ w, (zeroValue 109).run P w = .ok (Value.slice none 0 0) w
 tF : P.underlying 116 = some (TypeDesc.func #[114, 114] #[3] false)
 aF : ∀ w, (isAgg 116).run P w = .ok false w
 zF : ∀ w, (Go.sizeOf 116).run P w = .ok 1 w
 vF : ∀ w, (zeroValue 116).run P w = .ok Value.nilFunc w
 aE : ∀ w, (isAgg 114).run P w = .ok true w
 zE : ∀ w, (Go.sizeOf 114).run P w = .ok k w
theorem swapRange_anyC (X : StC P k) (enc : α → List Value) (fv : Value) (blk off cap a b n : Nat) (d0 d : Array α) (w0 w : World)
  (R : RowK enc k w0 blk off d0) (hs : d0.size = d.size) (S : SWK enc k w0 blk off d w) (hab : a + n ≤ b) (hb : b + n ≤ d.size) (hsz : d.size < 4611686018427387904) :
  Calls P 134 #[.slice (some ⟨blk, off, none⟩) d.size cap, .int .i64 a, .int .i64 b, .int .i64 n, fv] w fun e w' => e = .returned (.tuple #[]) ∧ ∃ d', Exch d d' a b n ∧ PermIn a (b + n) d d' ∧ SWK enc k w0 blk off d' w' := by
 have mixed := X.mixed; have t0 := X.t0; have a0 := X.a0; have z0 := X.z0; have v0 := X.v0; have t3 := X.t3; have a3 := X.a3; have z3 := X.z3; have v3 := X.v3; have t4 := X.t4; have a4 := X.a4; have z4 := X.z4; have v4 := X.v4; have tL := X.tL; have aL := X.aL; have zL := X.zL; have vL := X.vL; have tF := X.tF; have aF := X.aF; have zF := X.zF; have vF := X.vF; have aE := X.aE; have zE := X.zE
 have S0 : Aside (SWK enc k w0 blk off d w) := S
 clear S
 go_enter X.fS, Tryz.ntmps134
 go_wp2
 go_loopg [10] n (fun kx s10 wr => ∃ (i : Nat) (dk : Array α), s10 = .int .i64 i ∧ i ≤ n ∧ n - i ≤ kx ∧ dk.size = d.size ∧ Hid (Exch d dk a b i) ∧ Hid (PermIn a (b + n) d dk) ∧ Aside (SWK enc k w0 blk off dk wr))
 case atStart => exact ⟨0, d, rfl, by omega, by omega, rfl, Exch.zero d a b, permIn_refl d a (b + n), S0⟩
 case round =>
  clear S0
  obtain ⟨i, dk, rfl, hin, hkx, hds, HX, HP, S1⟩ := hrel
  by_cases hlt : i < n
  ·have hltz : (i : Int) < (n : Int) := by omega
   have NX : Hid (Exch d (swp dk (a + i) (b + i)) a b (i + 1)) := HX.out.succ (by omega) (by omega)
   have NP : Hid (PermIn a (b + n) d (swp dk (a + i) (b + i))) := perm_exch_step HP.out (by omega) (by omega) (by omega) (by omega) (by omega)
   clear HX HP
   go_wp2_with fail
   have ea44 : ((a : Int) + (i : Int)).toNat = a + i := by omega
   have pa44 : (0 : Int) ≤ (a : Int) + (i : Int) := by omega
   have ba44 : (a : Int) + (i : Int) < (d.size : Int) := by omega
   have ra44 : IntKind.i64.wrap ((a : Int) + (i : Int)) = (a : Int) + (i : Int) := by rw [IntKind.wrap_i64]; omega
   have ec44 : ((b : Int) + (i : Int)).toNat = b + i := by omega
   have pc44 : (0 : Int) ≤ (b : Int) + (i : Int) := by omega
   have bc44 : (b : Int) + (i : Int) < (d.size : Int) := by omega
   have rc44 : IntKind.i64.wrap ((b : Int) + (i : Int)) = (b : Int) + (i : Int) := by rw [IntKind.wrap_i64]; omega
   have S2 : Aside (SWK enc k w0 blk off (swp dk (a + i) (b + i)) ((wr.drew.setCells blk (off + (a + i) * k) (enc dk[b + i]!)).setCells blk (off + (b + i) * k) (enc dk[a + i]!))) := S1.out.swapped R (a + i) (b + i) (by omega) (by omega)
   have l44a := S1.out.ld1 R (by omega) P (a + i) (by omega)
   have l44b := S1.out.ld1 R (by omega) P (b + i) (by omega)
   have s44a := S1.out.st1 R (by omega) P (a + i) (by omega) dk[b + i]!
   have s44b := S1.out.st2 R (by omega) P (a + i) (b + i) (by omega) (by omega) dk[b + i]! dk[a + i]!
   have n44a : (enc dk[a + i]!).length = k := R.hk _
   have n44b : (enc dk[b + i]!).length = k := R.hk _
   generalize enc dk[a + i]! = cI44 at S2 l44a s44b n44a
   generalize enc dk[b + i]! = cJ44 at S2 l44b s44a s44b n44b
   clear S1
   go_wp2_with fail
   go_big_region_o
   clear l44a l44b s44a s44b
   generalize (wr.drew.setCells blk (off + (a + i) * k) cJ44).setCells blk (off + (b + i) * k) cI44 = w2 at S2 ⊢
   go_wp2
   go_roundg (n - (i + 1))
   case measure => omega
   case rel => exact ⟨i + 1, swp dk (a + i) (b + i), by go_num, by omega, Nat.le_refl _, by rw [size_swp]; exact hds, NX, NP, S2⟩
  ·have hin' : i = n := by omega
   have hnot : ¬ (i : Int) < (n : Int) := by omega
   go_wp2
   go_end0
   refine ⟨rfl, dk, ?_, HP.out, S1.out⟩
   rw [← hin']; exact HX.out
theorem rotate_anyC (X : StC P k) (enc : α → List Value) (fv : Value) (blk off cap a m b : Nat) (d0 d : Array α) (w0 w : World)
  (R : RowK enc k w0 blk off d0) (hs : d0.size = d.size) (S : SWK enc k w0 blk off d w) (ham : a < m) (hmb : m < b) (hb : b ≤ d.size) (hsz : d.size < 4611686018427387904) :
  Calls P 122 #[.slice (some ⟨blk, off, none⟩) d.size cap, .int .i64 a, .int .i64 m, .int .i64 b, fv] w fun e w' => e = .returned (.tuple #[]) ∧ ∃ d', Rot d d' a m b ∧ PermIn a b d d' ∧ SWK enc k w0 blk off d' w' := by
 have mixed := X.mixed; have t0 := X.t0; have a0 := X.a0; have z0 := X.z0; have v0 := X.v0; have t3 := X.t3; have a3 := X.a3; have z3 := X.z3; have v3 := X.v3; have t4 := X.t4; have a4 := X.a4; have z4 := X.z4; have v4 := X.v4; have tL := X.tL; have aL := X.aL; have zL := X.zL; have vL := X.vL; have tF := X.tF; have aF := X.aF; have zF := X.zF; have vF := X.vF; have aE := X.aE; have zE := X.zE
 have eS : ∀ args w, (callFunc 134 args).run P w = .ok (.enter 134 args) w := enters_of X.fS (by kernel_rfl) rfl
 have S0 : Aside (SWK enc k w0 blk off d w) := S
 clear S
 go_enter X.fR, Tryz.ntmps122
 go_wp2
 go_loopg [10, 11] (b - a) (fun kx s10 s11 wr => ∃ (i j : Nat) (dk : Array α), s10 = .int .i64 i ∧ s11 = .int .i64 j ∧ 0 < i ∧ 0 < j ∧ i ≤ m - a ∧ j ≤ b - m ∧ i + j ≤ kx ∧ dk.size = d.size ∧ Hid (∀ d', Rot dk d' (m - i) m (m + j) → Rot d d' a m b) ∧ Hid (PermIn a b d dk) ∧ Aside (SWK enc k w0 blk off dk wr))
 case atStart => exact ⟨m - a, b - m, d, by go_num, by go_num, by omega, by omega, by omega, by omega, by omega, rfl, (fun d' h => by
   have e1 : m - (m - a) = a := by omega
   have e2 : m + (b - m) = b := by omega
   rw [e1, e2] at h; exact h : ∀ d', Rot d d' (m - (m - a)) m (m + (b - m)) → Rot d d' a m b), permIn_refl d a b, S0⟩
 case round =>
  clear S0
  obtain ⟨i, j, dk, rfl, rfl, hi0, hj0, him, hjm, hkx, hds, HR, HP, S1⟩ := hrel
  have hwm : (m : Int) - (i : Int) = ((m - i : Nat) : Int) := by omega
  by_cases hij : i = j
  ·subst hij
   have hc := swapRange_anyC X enc fv blk off cap (m - i) m i d0 dk w0 wr R (by omega) S1.out (by omega) (by omega) (by omega)
   rw [hds] at hc
   have HC : Hid (Calls P _ _ _ _) := hc
   clear hc S1
   go_wp2_with (go_at_fn 134; refine HC.out.mono ?_; rintro e w1 ⟨rfl, d1, hx, hp, S2⟩)
   go_end0
   exact ⟨rfl, d1, HR.out d1 (Rot.even (by omega) hx), permIn_trans _ _ _ a b HP.out (permIn_mono _ _ (m - i) (m + i) a b (by omega) (by omega) (by omega) hp), S2⟩
  ·by_cases hgt : j < i
   ·have hc := swapRange_anyC X enc fv blk off cap (m - i) m j d0 dk w0 wr R (by omega) S1.out (by omega) (by omega) (by omega)
    rw [hds] at hc
    have HC : Hid (Calls P _ _ _ _) := hc
    clear hc S1
    have hne : ((i : Int) == (j : Int)) = false := by simp; omega
    have hgz : (j : Int) < (i : Int) := by omega
    go_wp2_with (go_at_fn 134; refine HC.out.mono ?_; rintro e w1 ⟨rfl, d1, hx, hp, S2⟩; have S3 : Aside _ := S2; clear S2; have HX : Hid _ := hx; have HQ : Hid _ := hp; clear hx hp)
    go_roundg (i - j + j)
    case measure => omega
    case rel => exact ⟨i - j, j, d1, by go_num, rfl, by omega, hj0, by omega, hjm, Nat.le_refl _, by rw [HQ.out.1]; exact hds, (fun d' h => HR.out d' (Rot.left (by omega) hj0 hgt HX.out h) : ∀ d', Rot d1 d' (m - (i - j)) m (m + j) → Rot d d' a m b), permIn_trans _ _ _ a b HP.out (permIn_mono _ _ (m - i) (m + j) a b (by omega) (by omega) (by omega) HQ.out), S3⟩
   ·have hc := swapRange_anyC X enc fv blk off cap (m - i) (m + j - i) i d0 dk w0 wr R (by omega) S1.out (by omega) (by omega) (by omega)
    rw [hds] at hc
    have HC : Hid (Calls P _ _ _ _) := hc
    clear hc S1
    have hne : ((i : Int) == (j : Int)) = false := by simp; omega
    have hgz : ¬ (j : Int) < (i : Int) := by omega
    have hwj : (m : Int) + (j : Int) - (i : Int) = ((m + j - i : Nat) : Int) := by omega
    go_wp2_with (go_at_fn 134; refine HC.out.mono ?_; rintro e w1 ⟨rfl, d1, hx, hp, S2⟩; have S3 : Aside _ := S2; clear S2; have HX : Hid _ := hx; have HQ : Hid _ := hp; clear hx hp)
    go_roundg (i + (j - i))
    case measure => omega
    case rel => exact ⟨i, j - i, d1, rfl, by go_num, hi0, by omega, him, by omega, Nat.le_refl _, by rw [HQ.out.1]; exact hds, (fun d' h => HR.out d' (Rot.right (by omega) hi0 (by omega) HX.out h) : ∀ d', Rot d1 d' (m - i) m (m + (j - i)) → Rot d d' a m b), permIn_trans _ _ _ a b HP.out (permIn_mono _ _ (m - i) (m + j - i + i) a b (by omega) (by omega) (by omega) HQ.out), S3⟩
end Go.Proofs.YtppodkkefegbkaaGreatDoor
