/-
 What strconv.Itoa answers over a world that holds strconv's table of powers; small facts of texts.
-/
import Derived.Test.YtppodkkefegbkaaGreatDoorJz1
import Derived.Lib.LaidTab
import Derived.OwnWalk
import Derived.Deep.AppendLies
import Derived.WalkKit
import Derived.Test.YtppodkkefegbkaaGreatDoorErrs
import Derived.Test.YtppodkkefegbkaaGreatDoorRows
import Derived.LaidLaws
import Derived.LaidHandle
import Derived.Stop.LaidErr
set_option maxRecDepth 100000
set_option maxHeartbeats 16000000
namespace Go.Proofs.YtppodkkefegbkaaGreatDoor
open Go.RowKit Go.Lib Go.Sort
theorem isEmpty_nil {s : ByteArray} (h : s.data.toList = []) : s = ByteArray.empty := by
 cases s; simp at h; subst h; rfl
theorem below_grow (w : World) (k : Nat) (os : Array Obj) : Below w.heap.size w (grow (w.drewN k) os) :=
 ⟨rfl, rfl, rfl, by show w.heap.size ≤ (w.heap ++ os).size; simp, fun j hj => by show (w.heap ++ os)[j]? = _; rw [Array.getElem?_append_left hj]⟩
def nameB (c : UInt8) : Bool := (decide (97 ≤ c.toNat) && decide (c.toNat ≤ 122)) || (decide (48 ≤ c.toNat) && decide (c.toNat ≤ 57))
def isName (l : List UInt8) : Bool := l.all nameB && (decide (1 ≤ l.length) && decide (l.length ≤ 8))
theorem name_false_of (s : ByteArray) (k : Nat) (h : k < s.size) (hd : nameB s[k] = false) : s.data.toList.all nameB = false := by
 rw [List.all_eq_false]
 refine ⟨s[k], ?_, by rw [hd]; decide⟩
 have := List.getElem_mem (l := s.data.toList) (n := k) (by rw [size_len]; exact h)
 exact this
theorem name_bad (s : ByteArray) (k : Nat) (w : World) (h : k < s.size) (hd : nameB s[k] = false) : Ending.returned (.bool false) = Ending.returned (.bool (isName s.data.toList)) ∧ w = w := by
 unfold isName
 rw [name_false_of s k h hd]; exact ⟨rfl, rfl⟩
theorem name_good (s : ByteArray) (k : Nat) (w : World) (h : s.size ≤ k) (ha : (s.data.toList.take k).all nameB = true) : Ending.returned (.bool (decide (1 ≤ s.size) && decide (s.size ≤ 8))) = Ending.returned (.bool (isName s.data.toList)) ∧ w = w := by
 rw [List.take_of_length_le (by rw [size_len]; exact h)] at ha
 unfold isName
 rw [ha, size_len]; exact ⟨rfl, rfl⟩
theorem nameByte_any (c : Int) (w : World) (h0 : 0 ≤ c) (h1 : c ≤ 255) :
  Calls Tryz.prog 108 #[.int .u8 c] w fun e w' => e = .returned (.bool ((decide (97 ≤ c) && decide (c ≤ 122)) || (decide (48 ≤ c) && decide (c ≤ 57)))) ∧ w' = w := by
 by_cases a : 97 ≤ c
 ·by_cases b : c ≤ 122
  ·go_enter Tryz.func108, Tryz.ntmps108
   go_wp2
   go_ret
   exact ⟨by simp [a, b], rfl⟩
  ·go_enter Tryz.func108, Tryz.ntmps108
   go_wp2
   go_ret
   exact ⟨by simp <;> omega, rfl⟩
 ·by_cases b : 48 ≤ c
  ·by_cases d : c ≤ 57
   ·go_enter Tryz.func108, Tryz.ntmps108
    go_wp2
    go_ret
    exact ⟨by simp <;> omega, rfl⟩
   ·go_enter Tryz.func108, Tryz.ntmps108
    go_wp2
    go_ret
    exact ⟨by simp <;> omega, rfl⟩
  ·go_enter Tryz.func108, Tryz.ntmps108
   go_wp2
   go_ret
   exact ⟨by simp <;> omega, rfl⟩
theorem nameByte_yes (c : Int) (w : World) (h0 : 0 ≤ c) (h1 : c ≤ 255) (h : (97 ≤ c ∧ c ≤ 122) ∨ (48 ≤ c ∧ c ≤ 57)) :
  Calls Tryz.prog 108 #[.int .u8 c] w fun e w' => e = .returned (.bool true) ∧ w' = w := by
 refine (nameByte_any c w h0 h1).mono ?_
 rintro e w' ⟨rfl, rfl⟩
 exact ⟨by simp <;> omega, rfl⟩
theorem nameByte_no (c : Int) (w : World) (h0 : 0 ≤ c) (h1 : c ≤ 255) (h : ¬ ((97 ≤ c ∧ c ≤ 122) ∨ (48 ≤ c ∧ c ≤ 57))) :
  Calls Tryz.prog 108 #[.int .u8 c] w fun e w' => e = .returned (.bool false) ∧ w' = w := by
 refine (nameByte_any c w h0 h1).mono ?_
 rintro e w' ⟨rfl, rfl⟩
 exact ⟨by simp <;> omega, rfl⟩
theorem name_any (s : ByteArray) (w : World) (hz : s.size ≤ maxLen) :
  Calls Tryz.prog 77 #[.string s] w fun e w' => e = .returned (.bool (isName s.data.toList)) ∧ w' = w := by
 unfold maxLen at hz
 by_cases h0 : 1 ≤ s.size
 ·have he := isEmpty_of s h0
  have he' : ¬ s.toList = [] := by rw [← List.isEmpty_iff, he]; decide
  by_cases h1 : s.size ≤ 8
  ·go_enter Tryz.func77, Tryz.ntmps77
   go_wp2
   go_loop [13] (fun i => ∃ k : Nat, k ≤ s.size ∧ i = .int .i64 k ∧ (s.data.toList.take k).all nameB = true) (fun i => s.size - (RowKit.intOf i).toNat)
   case atStart => exact ⟨0, Nat.zero_le _, rfl, rfl⟩
   case round =>
    obtain ⟨k, hk, rfl, hall⟩ := hrel
    by_cases hlt : k < s.size
    ·have HS : Hid (s.data.toList.take (k + 1) = s.data.toList.take k ++ [s[k]]) := take_snoc s k hlt
     have HA : Hid ((s.data.toList.take k).all nameB = true) := hall
     clear hall
     have hb : 0 ≤ (s[k].toNat : Int) ∧ (s[k].toNat : Int) ≤ 255 := by have := s[k].toNat_lt; omega
     by_cases hc : (97 ≤ (s[k].toNat : Int) ∧ (s[k].toNat : Int) ≤ 122) ∨ (48 ≤ (s[k].toNat : Int) ∧ (s[k].toNat : Int) ≤ 57)
     ·have hy := nameByte_yes s[k].toNat w hb.1 hb.2 hc
      have HC : Hid (nameB s[k] = true) := by show _ = _; unfold nameB; simp; omega
      clear hc
      go_wp2_with (go_at_call 108; refine hy.mono ?_; rintro e w1 ⟨rfl, rfl⟩)
      go_round
      case rel => exact ⟨k + 1, by omega, by go_num, by rw [HS.out, List.all_append, HA.out]; simp [HC.out]⟩
      case measure => simp [RowKit.intOf]; omega
     ·have hy := nameByte_no s[k].toNat w hb.1 hb.2 hc
      have HC : Hid (nameB s[k] = false) := by show _ = _; unfold nameB; simp; omega
      clear hc
      go_wp2_with (go_at_call 108; refine hy.mono ?_; rintro e w1 ⟨rfl, rfl⟩)
      go_ret
      exact name_bad s k _ hlt HC.out
    ·go_wp2
     go_ret
     have := name_good s k w (by omega) hall
     rw [decide_eq_true h0, decide_eq_true h1] at this
     exact this
  ·go_enter Tryz.func77, Tryz.ntmps77
   go_wp2
   go_ret
   refine ⟨?_, rfl⟩
   unfold isName
   rw [size_len, decide_eq_false h1]; simp
 ·have hs : s.data.toList = [] := List.eq_nil_of_length_eq_zero (by rw [size_len]; omega)
  have he : s = ByteArray.empty := isEmpty_nil hs
  clear hs
  subst he
  go_enter Tryz.func77, Tryz.ntmps77
  go_wp2
  go_ret
  exact ⟨rfl, rfl⟩
theorem isName_any (s : ByteArray) (w : World) (hz : s.size ≤ maxLen) :
  Calls Tryz.prog 43 #[.string s] w fun e w' => e = .returned (.bool (isName s.data.toList)) ∧ w' = w := by
 unfold maxLen at hz
 go_enter Tryz.func43, Tryz.ntmps43
 go_wp2
 go_loop [3] (fun i => ∃ k : Nat, k ≤ s.size ∧ i = .int .i64 k ∧ (s.data.toList.take k).all nameB = true) (fun i => s.size - (RowKit.intOf i).toNat)
 case atStart => exact ⟨0, Nat.zero_le _, rfl, rfl⟩
 case round =>
  obtain ⟨k, hk, rfl, hall⟩ := hrel
  by_cases hlt : k < s.size
  ·have HS : Hid (s.data.toList.take (k + 1) = s.data.toList.take k ++ [s[k]]) := take_snoc s k hlt
   have HA : Hid ((s.data.toList.take k).all nameB = true) := hall
   clear hall
   have hb : 0 ≤ (s[k].toNat : Int) ∧ (s[k].toNat : Int) ≤ 255 := by have := s[k].toNat_lt; omega
   have hcases : (s[k].toNat : Int) < 48 ∨ (48 ≤ (s[k].toNat : Int) ∧ (s[k].toNat : Int) ≤ 57) ∨ (57 < (s[k].toNat : Int) ∧ (s[k].toNat : Int) < 97) ∨ (97 ≤ (s[k].toNat : Int) ∧ (s[k].toNat : Int) ≤ 122) ∨ 122 < (s[k].toNat : Int) := by omega
   rcases hcases with hc | hc | hc | hc | hc
   ·have HC : Hid (nameB s[k] = false) := by show _ = _; unfold nameB; simp; omega
    go_wp2
    go_ret
    exact name_bad s k _ hlt HC.out
   ·have HC : Hid (nameB s[k] = true) := by show _ = _; unfold nameB; simp; omega
    obtain ⟨c1, c2⟩ := hc
    go_wp2
    go_round
    case rel => exact ⟨k + 1, by omega, by go_num, by rw [HS.out, List.all_append, HA.out]; simp [HC.out]⟩
    case measure => simp [RowKit.intOf]; omega
   ·have HC : Hid (nameB s[k] = false) := by show _ = _; unfold nameB; simp; omega
    obtain ⟨c1, c2⟩ := hc
    have b1 : decide ((s[k].toNat : Int) ≤ 57) = false := decide_eq_false (by omega)
    go_wp2
    go_ret
    exact name_bad s k _ hlt HC.out
   ·have HC : Hid (nameB s[k] = true) := by show _ = _; unfold nameB; simp; omega
    obtain ⟨c1, c2⟩ := hc
    go_wp2
    go_round
    case rel => exact ⟨k + 1, by omega, by go_num, by rw [HS.out, List.all_append, HA.out]; simp [HC.out]⟩
    case measure => simp [RowKit.intOf]; omega
   ·have HC : Hid (nameB s[k] = false) := by show _ = _; unfold nameB; simp; omega
    have b1 : decide ((s[k].toNat : Int) ≤ 57) = false := decide_eq_false (by omega)
    have b2 : decide ((s[k].toNat : Int) ≤ 122) = false := decide_eq_false (by omega)
    go_wp2
    go_ret
    exact name_bad s k _ hlt HC.out
  ·have HA : Hid ((s.data.toList.take k).all nameB = true) := hall
   clear hall
   by_cases h1 : 1 ≤ s.size
   ·go_wp2
    go_ret
    have := name_good s k w (by omega) HA.out
    rw [decide_eq_true h1] at this
    have e2 : decide ((s.size : Int) ≤ 8) = decide (s.size ≤ 8) := decide_eq_decide.2 (by omega)
    simpa [e2] using this
   ·go_wp2
    go_ret
    have := name_good s k w (by omega) HA.out
    rw [decide_eq_false h1] at this
    simpa using this
def stp (c : UInt8) (st : List (List UInt8) × List UInt8) (b : UInt8) : List (List UInt8) × List UInt8 := if b = c then (st.1 ++ [st.2], []) else (st.1, st.2 ++ [b])
def sp (c : UInt8) (l : List UInt8) : List (List UInt8) × List UInt8 := l.foldl (stp c) ([], [])
end Go.Proofs.YtppodkkefegbkaaGreatDoor
namespace Go.Proofs.YtppodkkefegbkaaGreatDoor
open Go.RowKit Go.Extern.Stop Go.Stop Go.Extern
abbrev err (a : Addr) : Value := .iface 225 (.pointer (some a))
def gOf (i : Nat) : Nat := [6, 5, 0, 7, 8, 1, 2, 3, 4, 9, 10, 11].getD i 0
structure Sent (w : World) (s : Nat → Addr) : Prop where
 cell : ∀ i, i < 12 → w.cell? ⟨gOf i, 0, none⟩ = some (err (s i))
 block : ∀ i, i < 12 → ∃ c t, w.heap[(s i).block]? = some (.cells c t (0, 0))
 inj : ∀ i j, i < 12 → j < 12 → s i = s j → i = j
def Handle (w : World) : Prop := w.cell? ⟨12, 0, none⟩ = some (.iface 190 (.agg #[.pointer (some ⟨13, 32, none⟩)]))
theorem block_lt {w : World} {b : Nat} {o : Obj} (h : w.heap[b]? = some o) : b < w.heap.size := by
 rcases Nat.lt_or_ge b w.heap.size with h' | h'
 ·exact h'
 ·simp [Array.getElem?_eq_none h'] at h
theorem Sent.below {w w' : World} {s : Nat → Addr} (h : Sent w s) (hb : Below w.heap.size w w') : Sent w' s where
 cell i hi := by rw [hb.cell (p := ⟨gOf i, 0, none⟩) (cell_lt (h.cell i hi))]; exact h.cell i hi
 block i hi := by
  obtain ⟨c, t, hc⟩ := h.block i hi
  exact ⟨c, t, by rw [hb.block _ (block_lt hc)]; exact hc⟩
 inj := h.inj
theorem Sent.cells {w : World} {s : Nat → Addr} (h : Sent w s) : w.cell? ⟨6, 0, none⟩ = some (err (s 0)) ∧ w.cell? ⟨5, 0, none⟩ = some (err (s 1)) ∧ w.cell? ⟨0, 0, none⟩ = some (err (s 2)) ∧ w.cell? ⟨7, 0, none⟩ = some (err (s 3)) ∧ w.cell? ⟨8, 0, none⟩ = some (err (s 4)) ∧ w.cell? ⟨1, 0, none⟩ = some (err (s 5)) ∧ w.cell? ⟨2, 0, none⟩ = some (err (s 6)) ∧ w.cell? ⟨3, 0, none⟩ = some (err (s 7)) ∧ w.cell? ⟨4, 0, none⟩ = some (err (s 8)) ∧ w.cell? ⟨9, 0, none⟩ = some (err (s 9)) ∧ w.cell? ⟨10, 0, none⟩ = some (err (s 10)) ∧ w.cell? ⟨11, 0, none⟩ = some (err (s 11)) :=
 ⟨h.cell 0 (by decide), h.cell 1 (by decide), h.cell 2 (by decide), h.cell 3 (by decide), h.cell 4 (by decide), h.cell 5 (by decide), h.cell 6 (by decide), h.cell 7 (by decide), h.cell 8 (by decide), h.cell 9 (by decide), h.cell 10 (by decide), h.cell 11 (by decide)⟩
theorem Handle.below {w w' : World} (h : Handle w) (hb : Below w.heap.size w w') : Handle w' := by
 unfold Handle at *
 rw [hb.cell (p := ⟨12, 0, none⟩) (cell_lt h)]; exact h
theorem code_nil (w : World) : Calls Tryz.prog 40 #[.nilIface] w fun e w' => e = .returned (.tuple #[.int .i64 0, .int .i64 (-1)]) ∧ w' = w := by
 go_enter Tryz.func40, Tryz.ntmps40
 go_wp2
 go_ret2
 exact ⟨rfl, rfl⟩
theorem code_err (a : Addr) (w : World) (s : Nat → Addr) (hs : Sent w s) (hh : Handle w) (ca : Array Value) (ta : TypeId) (ha : w.heap[a.block]? = some (.cells ca ta (0, 0))) :
  Calls Tryz.prog 40 #[err a] w fun e w' => (∃ c : Int, e = .returned (.tuple #[.int .i64 c, .int .i64 (-1)]) ∧ ((∃ i, i < 12 ∧ s i = a ∧ c = i + 1) ∨ ((∀ i, i < 12 → s i ≠ a) ∧ c = -1))) ∧ Below w.heap.size w w' := by
 have hsz := cell_lt hh
 have hA : ∀ t, Calls Tryz.prog 74 #[err a, .iface 143 (.pointer (some t))] (w.alloc (.cells #[.pointer none] 83)) fun ev w' => ev = .returned (.bool false) ∧ Below (w.alloc (.cells #[.pointer none] 83)).heap.size (w.alloc (.cells #[.pointer none] 83)) w' := fun t => by
  refine (as_miss a t _ (hh.below (Below.refl _ _ |>.alloc (Nat.le_refl _) _))).mono ?_
  rintro e w' ⟨rfl, rfl⟩
  exact ⟨rfl, (((Below.refl _ _).alloc (by simp) _).alloc (by simp) _).alloc (by simp) _⟩
 go_enter Tryz.func40, Tryz.ntmps40
 go_wp2_with (go_at_call 74; refine (hA _).mono ?_; rintro e w1 ⟨rfl, hb⟩; have hb0 : Below w.heap.size w w1 := ((Below.refl _ _).alloc (Nat.le_refl _) _).trans (hb.mono (by simp)); obtain ⟨c0, c1, c2, c3, c4, c5, c6, c7, c8, c9, c10, c11⟩ := (hs.below hb0).cells)
 have hs2 : Sent (w1.alloc (.cells #[err (s 0), err (s 1), err (s 2), err (s 3), err (s 4), err (s 5), err (s 6), err (s 7), err (s 8), err (s 9), err (s 10), err (s 11)] 32)) s := (hs.below hb0).below ((Below.refl _ _).alloc (Nat.le_refl _) _)
 have hb2 : Below w.heap.size w (w1.alloc (.cells #[err (s 0), err (s 1), err (s 2), err (s 3), err (s 4), err (s 5), err (s 6), err (s 7), err (s 8), err (s 9), err (s 10), err (s 11)] 32)) := hb0.alloc hb0.size _
 have hk2 : ∀ k, k < 12 → (w1.alloc (.cells #[err (s 0), err (s 1), err (s 2), err (s 3), err (s 4), err (s 5), err (s 6), err (s 7), err (s 8), err (s 9), err (s 10), err (s 11)] 32)).cell? ⟨w1.heap.size, k, none⟩ = some (err (s k)) := fun k hk => by
  rcases k with _ | _ | _ | _ | _ | _ | _ | _ | _ | _ | _ | _ | k <;> first | omega | simp
 have ha2 : (w1.alloc (.cells #[err (s 0), err (s 1), err (s 2), err (s 3), err (s 4), err (s 5), err (s 6), err (s 7), err (s 8), err (s 9), err (s 10), err (s 11)] 32)).heap[a.block]? = some (.cells ca ta (0, 0)) := by rw [hb2.block _ (block_lt ha)]; exact ha
 clear c0 c1 c2 c3 c4 c5 c6 c7 c8 c9 c10 c11 hb hA
 generalize (w1.alloc (.cells #[err (s 0), err (s 1), err (s 2), err (s 3), err (s 4), err (s 5), err (s 6), err (s 7), err (s 8), err (s 9), err (s 10), err (s 11)] 32)) = W2 at hs2 hb2 hk2 ha2 ⊢
 go_loop [3, 30] (fun c i => ∃ k : Nat, k ≤ 12 ∧ c = .int .i64 (-1) ∧ i = .int .i64 k ∧ ∀ j, j < k → s j ≠ a) (fun _ i => 12 - (intOf i).toNat)
 case atStart => exact ⟨0, by omega, rfl, rfl, fun j hj => by omega⟩
 case round =>
  obtain ⟨k, hk, rfl, rfl, hno⟩ := hrel
  by_cases hlt : k < 12
  ·have hck := hk2 k hlt
   obtain ⟨cb, tb, hbk⟩ := hs2.block k hlt
   by_cases he : s k = a
   ·go_wp2_with (go_at_call 75; refine (is_same a _).mono ?_; rintro e w' ⟨rfl, rfl⟩)
    go_ret2
    exact ⟨⟨_, rfl, Or.inl ⟨k, hlt, he, rfl⟩⟩, hb2⟩
   ·go_wp2_with (go_at_call 75; refine (is_other a (s k) ca cb ta tb _ (fun h => he h.symm) ha2 hbk).mono ?_; rintro e w' ⟨rfl, rfl⟩)
    go_round
    case rel => exact ⟨k + 1, by omega, rfl, by go_num, fun j hj => by
     rcases Nat.lt_succ_iff_lt_or_eq.1 hj with h | rfl
     ·exact hno j h
     ·exact he⟩
    case measure => simp [intOf]; omega
  ·go_wp2
   go_ret2
   exact ⟨⟨_, rfl, Or.inr ⟨fun i hi => hno i (by omega), rfl⟩⟩, hb2⟩
theorem code_sent (i : Nat) (hi : i < 12) (w : World) (s : Nat → Addr) (hs : Sent w s) (hh : Handle w) :
  Calls Tryz.prog 40 #[err (s i)] w fun e w' => e = .returned (.tuple #[.int .i64 (i + 1 : Nat), .int .i64 (-1)]) ∧ Below w.heap.size w w' := by
 obtain ⟨ca, ta, ha⟩ := hs.block i hi
 refine (code_err (s i) w s hs hh ca ta ha).mono ?_
 rintro e w' ⟨⟨c, rfl, ⟨j, hj, hij, rfl⟩ | ⟨hno, rfl⟩⟩, hb⟩
 ·obtain rfl := hs.inj j i hj hi hij
  exact ⟨by simp, hb⟩
 ·exact absurd rfl (hno i hi)
end Go.Proofs.YtppodkkefegbkaaGreatDoor
namespace Go.Proofs.YtppodkkefegbkaaGreatDoor
open Go.RowKit Go.Lib
end Go.Proofs.YtppodkkefegbkaaGreatDoor
namespace Go.Proofs.YtppodkkefegbkaaGreatDoor
open Go.ChangeShapes Go.WideShapes Go.RowKit
theorem Tryz.own : ownKnob Tryz.prog.godebug = none := by kernel_rfl
theorem Tryz.cellsE : Tryz.prog.cellsOf 246 = 1 := by kernel_rfl
theorem Tryz.cellsS : Tryz.prog.cellsOf 9 = 1 := by kernel_rfl
theorem Tryz.star : "*" ++ "errors.errorString" = "*errors.errorString" := by decide
theorem Tryz.rowE (u : TypeId) (h : Tryz.prog.typeName? 3 u = some "*errors.errorString") : u = 225 :=
 typeName_ptr_named (nm := "errors.errorString") (by rw [Tryz.star]; kernel_rfl) (by kernel_rfl) (by decide) u (by rw [Tryz.star]; exact h)
abbrev errD (text : List UInt8) : DataW Unit := .iface "*errors.errorString" (.ptr (.agg [.lit (.string text)]))
def SentRow (W : World) (g : Nat) (a : Addr) : Prop := W.cell? ⟨g, 0, none⟩ = some (err a) ∧ ∃ c t, W.heap[a.block]? = some (.cells c t (0, 0))
theorem sents_of_laid {W : World} : ∀ (l : List (Nat × String × List UInt8)) (ps : List MemPlace), (∀ x ∈ l, Tryz.prog.globalNamed x.2.1 = some x.1 ∧ (Tryz.prog.globals[x.1]?).map (·.type) = some 32) →
  DataW.LaidVars Tryz.prog W (l.map fun x => (x.2.1, errD x.2.2)) ps → ps.Nodup →
  (∀ b off, MemPlace.cell b off ∈ ps → (∃ c t, W.heap[b]? = some (.cells c t (0, 0))) ∧ ∀ u v, W.cell? ⟨b, off, none⟩ = some (.iface u v) → Value.okWide Tryz.prog W .any 0 u v) →
  ∃ al : List Addr, al.length = l.length ∧ (∀ a ∈ al, MemPlace.cell a.block a.off ∈ ps) ∧ al.Nodup ∧ ∀ i, i < l.length → SentRow W (l.getD i (0, default, [])).1 (al.getD i ⟨0, 0, none⟩)
 | [], _, _, _, _, _ => ⟨[], rfl, (fun a h => by cases h), List.nodup_nil, fun i h => absurd h (Nat.not_lt_zero _)⟩
 | x :: l, ps, hx, hl, hnd, hrows => by
  obtain ⟨g, t, cs, fuel, p, q, hg, ht, hv, hd, hq, rfl⟩ := hl
  obtain ⟨hg', ht'⟩ := hx x (List.mem_cons_self ..)
  obtain rfl := Option.some.inj (hg'.symm.trans hg)
  obtain rfl := Option.some.inj (ht'.symm.trans ht)
  obtain ⟨cl⟩ := cs
  have ok : ∀ u v, cl = [.iface u v] → Value.okWide Tryz.prog W .any 0 u v := fun u v e => by
   subst e
   exact (hrows x.1 0 (by simp [MemPlace.row])).2 u v (by simpa using World.var?_cell hg hv 0)
  obtain ⟨a, s0, rfl, hc0, hs0, hz0, rfl⟩ := errorString_of_trod Tryz.underlying32 Tryz.rowE Tryz.underlying225 Tryz.underlying246 rfl rfl Tryz.underlying9 Tryz.cellsE Tryz.cellsS hd ok
  obtain ⟨al, hlen, hmem, hasnd, hrow⟩ := sents_of_laid l q (fun y hy => hx y (List.mem_cons_of_mem _ hy)) hq (List.Nodup.sublist (List.sublist_append_right _ _) hnd) (fun b off hm => hrows b off (List.mem_append_right _ hm))
  have hain : MemPlace.cell a.block a.off ∈ MemPlace.row ⟨x.1, 0, none⟩ (⟨[Value.iface 225 (Value.pointer (some a))]⟩ : Array Value).size ++ MemPlace.row a 1 := List.mem_append_right _ (by simp [MemPlace.row])
  refine ⟨a :: al, by simp [hlen], ?_, ?_, ?_⟩
  ·intro b hb
   rcases List.mem_cons.1 hb with rfl | hb
   ·exact List.mem_append_left _ hain
   ·exact List.mem_append_right _ (hmem b hb)
  ·refine List.nodup_cons.2 ⟨fun hin => ?_, hasnd⟩
   exact (List.nodup_append.1 hnd).2.2 _ hain _ (hmem a hin) rfl
  ·intro i hi
   rcases i with _ | i
   ·exact ⟨by simpa using World.var?_cell hg hv 0, (hrows a.block a.off (List.mem_append_left _ hain)).1⟩
   ·simpa using hrow i (by simpa using hi)
def sentList : List (Nat × String × List UInt8) := [
 (6, "tithebarn/api.ErrText", [116, 105, 116, 104, 101, 98, 97, 114, 110, 58, 32, 116, 101, 120, 116]),
 (5, "tithebarn/api.ErrBound", [116, 105, 116, 104, 101, 98, 97, 114, 110, 58, 32, 98, 111, 117, 110, 100]),
 (0, "tithebarn/api.ErrShape", [116, 105, 116, 104, 101, 98, 97, 114, 110, 58, 32, 115, 104, 97, 112, 101]),
 (7, "tithebarn/api.ErrKind", [116, 105, 116, 104, 101, 98, 97, 114, 110, 58, 32, 107, 105, 110, 100]),
 (8, "tithebarn/api.ErrName", [116, 105, 116, 104, 101, 98, 97, 114, 110, 58, 32, 110, 97, 109, 101]),
 (1, "tithebarn/api.ErrNone", [116, 105, 116, 104, 101, 98, 97, 114, 110, 58, 32, 110, 111, 110, 101]),
 (2, "tithebarn/api.ErrExist", [116, 105, 116, 104, 101, 98, 97, 114, 110, 58, 32, 101, 120, 105, 115, 116]),
 (3, "tithebarn/api.ErrFull", [116, 105, 116, 104, 101, 98, 97, 114, 110, 58, 32, 102, 117, 108, 108]),
 (4, "tithebarn/api.ErrShort", [116, 105, 116, 104, 101, 98, 97, 114, 110, 58, 32, 115, 104, 111, 114, 116]),
 (9, "tithebarn/api.ErrOrder", [116, 105, 116, 104, 101, 98, 97, 114, 110, 58, 32, 111, 114, 100, 101, 114]),
 (10, "tithebarn/api.ErrState", [116, 105, 116, 104, 101, 98, 97, 114, 110, 58, 32, 115, 116, 97, 116, 101]),
 (11, "tithebarn/api.ErrOff", [116, 105, 116, 104, 101, 98, 97, 114, 110, 58, 32, 111, 102, 102])]
theorem sentList_ok : (sentList.all fun x => decide (Tryz.prog.globalNamed x.2.1 = some x.1) && decide ((Tryz.prog.globals[x.1]?).map (·.type) = some 32)) = true := by kernel_rfl
theorem sent_of_laid {W : World} (h : laidMet Tryz.prog (sentList.map fun x => (x.2.1, errD x.2.2)) W) : ∃ s, Sent W s := by
 obtain ⟨ps, hl, hnd, hrows⟩ := h
 obtain ⟨al, hlen, _, hasnd, hrow⟩ := sents_of_laid sentList ps (fun x hx => by
  have := List.all_eq_true.1 sentList_ok x hx
  simpa using this) hl hnd hrows
 have h12 : al.length = 12 := hlen
 refine ⟨fun i => al.getD i ⟨0, 0, none⟩, ?_, fun i hi => (hrow i hi).2, ?_⟩
 ·intro i hi
  have hr := (hrow i hi).1
  rcases i with _ | _ | _ | _ | _ | _ | _ | _ | _ | _ | _ | _ | i
  all_goals first | exact hr | omega
 ·intro i j hi hj he
  have e1 : al.getD i ⟨0, 0, none⟩ = al[i] := by rw [List.getD_eq_getElem?_getD, List.getElem?_eq_getElem (by omega)]; rfl
  have e2 : al.getD j ⟨0, 0, none⟩ = al[j] := by rw [List.getD_eq_getElem?_getD, List.getElem?_eq_getElem (by omega)]; rfl
  simp only [e1, e2] at he
  exact (List.getElem_inj hasnd).1 he
theorem Tryz.etG : Tryz.prog.globalNamed "errors.errorType" = some 12 := by kernel_rfl
theorem Tryz.etR : (Tryz.prog.cutTypes.find? (·.1 == "internal/reflectlite.rtype")).map (·.2) = some 190 := by kernel_rfl
theorem Tryz.etOne : ((List.range 258).filter fun t => Tryz.prog.rowNamed t [101, 114, 114, 111, 114]) = [32] := by kernel_rfl
theorem Tryz.etSize : Tryz.prog.types.size = 258 := by kernel_rfl
theorem handle_of_laid {W : World} (h : handlesMet Tryz.prog [("errors.errorType", Rows.laid_errors_errorType)] W) : Handle W := by
 obtain ⟨name, u, ty, e1, e2, e3, e4, e5⟩ := h _ (List.mem_singleton.2 rfl)
 have en : name = [101, 114, 114, 111, 114] := (Option.some.inj e1).symm
 subst en
 obtain rfl := Option.some.inj (Tryz.etR.symm.trans e2)
 have hm : ty ∈ (List.range 258).filter fun t => Tryz.prog.rowNamed t [101, 114, 114, 111, 114] := List.mem_filter.2 ⟨List.mem_range.2 (by rw [← Tryz.etSize]; exact e3), e4⟩
 rw [Tryz.etOne] at hm
 obtain rfl := List.mem_singleton.1 hm
 have hh : typeHandle Tryz.prog 32 = .pointer (some ⟨13, 32, none⟩) := by kernel_rfl
 rw [hh] at e5
 unfold Handle
 simpa using World.var?_cell Tryz.etG e5 0
end Go.Proofs.YtppodkkefegbkaaGreatDoor
