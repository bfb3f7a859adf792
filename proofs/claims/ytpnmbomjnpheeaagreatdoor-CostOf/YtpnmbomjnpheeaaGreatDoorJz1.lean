/-
 Plain mathematics of numbers as text and of pieces as cases and pieces: what is written is read. No program stands here.
-/
import Derived.Lib.ItoaNum
import Derived.Lib.IndexLaws
import Derived.Test.YtpnmbomjnpheeaaGreatDoorProg
import Derived.Test.YtpnmbomjnpheeaaGreatDoorShelf
import Derived.WalkKit
import Derived.BigQuiet
import Derived.WalkSmall
import Derived.Below
import Derived.Lib.LaidTab
import Derived.Test.YtpnmbomjnpheeaaGreatDoorErrs
import Derived.Maps.RangeWalk
import Derived.WideKeyEntry
import Derived.Lib.SmallJoins
import Derived.OwnWalk
set_option maxRecDepth 100000
set_option maxHeartbeats 16000000
namespace Go.Proofs.YtpnmbomjnpheeaaGreatDoor
open Go.Lib
theorem nDigits_le : ∀ (k u : Nat), 1 ≤ k → u < 10 ^ k → nDigits u ≤ k := by
 intro k u hk h
 by_cases h0 : u < 10
 ·rw [nDigits_small h0]; exact hk
 ·obtain ⟨j, hj⟩ : ∃ j, nDigits u = j + 1 := ⟨nDigits u - 1, by have := nDigits_pos u; omega⟩
  rcases Nat.lt_or_ge k (nDigits u) with hlt | hge
  ·exfalso
   have hle : ∀ u, 10 ^ (nDigits u - 1) ≤ u ∨ u = 0 := by
    intro u
    induction u using Nat.strongRecOn with
    | _ u ih =>
     by_cases h0 : u < 10
     ·rw [nDigits_small h0]; simp; omega
     ·rcases ih (u / 10) (by omega) with h1 | h1
      ·left
       rw [nDigits_big h0]
       have hp := nDigits_pos (u / 10)
       obtain ⟨m, hm⟩ : ∃ m, nDigits (u / 10) = m + 1 := ⟨nDigits (u / 10) - 1, by omega⟩
       rw [hm] at h1 ⊢
       simp only [Nat.add_sub_cancel] at h1 ⊢
       rw [Nat.pow_succ]
       omega
      ·omega
   rcases hle u with h1 | h1
   ·have : 10 ^ k ≤ 10 ^ (nDigits u - 1) := Nat.pow_le_pow_right (by decide) (by omega)
    omega
   ·omega
  ·exact hge
/- a text without a sign, and cut at its first one -/
def pre (c : UInt8) (l : List UInt8) : List UInt8 := l.takeWhile (· != c)
def post (c : UInt8) (l : List UInt8) : List UInt8 := (l.dropWhile (· != c)).drop 1
def has (c : UInt8) (l : List UInt8) : Bool := l.any (· == c)
/- pieces -/
def pw (p : Int) : Bool := decide (1 ≤ p) && decide (p ≤ 1000)
end Go.Proofs.YtpnmbomjnpheeaaGreatDoor
namespace Go.Proofs.YtpnmbomjnpheeaaGreatDoor
open Go.RowKit Go.Lib
theorem take_snoc (s : ByteArray) (k : Nat) (h : k < s.size) : s.data.toList.take (k + 1) = s.data.toList.take k ++ [s[k]] := by
 rw [List.take_succ_eq_append_getElem (by simpa using h)]; rfl
theorem isEmpty_of (s : ByteArray) (h : 1 ≤ s.size) : s.toList.isEmpty = false := by
 rw [← decide_eq_emptyBytes]
 apply decide_eq_false
 rintro rfl
 exact absurd h (by decide)
theorem size_len (s : ByteArray) : s.data.toList.length = s.size := (Lib.size_eq s).symm
end Go.Proofs.YtpnmbomjnpheeaaGreatDoor
namespace Go.Proofs.YtpnmbomjnpheeaaGreatDoor
open Go.RowKit Go.Lib Go.Sort
theorem isEmpty_nil {s : ByteArray} (h : s.data.toList = []) : s = ByteArray.empty := by
 cases s; simp at h; subst h; rfl
theorem bytes_toList (l : List UInt8) : (⟨l.toArray⟩ : ByteArray).data.toList = l := by simp
def Pow (w : World) : Prop := TabIs Tryz.prog w "internal/strconv.uint64pow10" .u64 pow10Tab
theorem Pow.below {w w' : World} (h : Pow w) (hb : Below w.heap.size w w') : Pow w' := by
 unfold Pow TabIs World.var? at *
 cases hg : Tryz.prog.globalNamed "internal/strconv.uint64pow10" with
 | none => simp [hg] at h
 | some g =>
  simp only [hg, Option.bind_some] at h ⊢
  have hlt : g < w.heap.size := by
   rcases Nat.lt_or_ge g w.heap.size with h' | h'
   ·exact h'
   ·simp [Array.getElem?_eq_none h'] at h
  rw [hb.block g hlt]
  exact h
theorem below_grow (w : World) (k : Nat) (os : Array Obj) : Below w.heap.size w (grow (w.drewN k) os) :=
 ⟨rfl, rfl, rfl, by show w.heap.size ≤ (w.heap ++ os).size; simp, fun j hj => by show (w.heap ++ os)[j]? = _; rw [Array.getElem?_append_left hj]⟩
theorem itoa_any (n : Int) (h0 : 0 ≤ n) (h1 : n ≤ 9223372036854775807) (w : World) (hp : Pow w) :
  Calls Tryz.prog 27 #[.int .i64 n] w fun e w' => e = .returned (.string ⟨(decDigits n.toNat).toArray⟩) ∧ Below w.heap.size w w' := by
 refine (Tryz.strconv_Itoa n (by omega) h1 w hp).mono ?_
 rintro e w' ⟨rfl, k, os, rfl⟩
 refine ⟨?_, below_grow w k os⟩
 unfold itoa
 rw [if_neg (by omega)]
theorem str_append (a b : List UInt8) : (⟨a.toArray⟩ : ByteArray) ++ ⟨b.toArray⟩ = ⟨(a ++ b).toArray⟩ := by
 apply ByteArray.ext
 simp
end Go.Proofs.YtpnmbomjnpheeaaGreatDoor
namespace Go.Proofs.YtpnmbomjnpheeaaGreatDoor
open Go.RowKit Go.Extern.Stop Go.Stop Go.Extern
theorem is_same (a : Addr) (w : World) :
  Calls Tryz.prog 45 #[.iface 206 (.pointer (some a)), .iface 206 (.pointer (some a))] w fun e w' => e = .returned (.bool true) ∧ w' = w := by
 obtain ⟨i, hi, hcmp⟩ := Option.map_eq_some_iff.1 Tryz.eComp
 obtain ⟨j, hj, hjs⟩ : ∃ j, Tryz.prog.info? 224 = some j ∧ j.size ≠ 0 := by
  rcases Tryz.eSize with h | h <;> obtain ⟨j, hj, hjs⟩ := Option.map_eq_some_iff.1 h <;> exact ⟨j, hj, by rw [hjs]; decide⟩
 have h8 := Tryz.eCallTypeOf
 have h32 := Tryz.eCallComparable
 have tT := Tryz.eTypeOfE
 have mR := Tryz.eMethodComparable
 have heq := run_eql_iface_ptr_same (P := Tryz.prog) w a Tryz.underlying27 Tryz.underlying206 hi hcmp hj
 go_enter Tryz.func45, Tryz.ntmps45
 go_wp2
 refine wp_loop_rounds 1 ?_
 rw [rounds_succ]
 go_wp2
 go_ret
 exact ⟨rfl, rfl⟩
theorem is_other (a b : Addr) (ca cb : Array Value) (ta tb : TypeId) (w : World) (hne : a ≠ b) (ha : w.heap[a.block]? = some (.cells ca ta (0, 0))) (hb : w.heap[b.block]? = some (.cells cb tb (0, 0))) :
  Calls Tryz.prog 45 #[.iface 206 (.pointer (some a)), .iface 206 (.pointer (some b))] w fun e w' => e = .returned (.bool false) ∧ w' = w := by
 obtain ⟨i, hi, hcmp⟩ := Option.map_eq_some_iff.1 Tryz.eComp
 obtain ⟨j, hj, hjs⟩ : ∃ j, Tryz.prog.info? 224 = some j ∧ j.size ≠ 0 := by
  rcases Tryz.eSize with h | h <;> obtain ⟨j, hj, hjs⟩ := Option.map_eq_some_iff.1 h <;> exact ⟨j, hj, by rw [hjs]; decide⟩
 have h8 := Tryz.eCallTypeOf
 have h32 := Tryz.eCallComparable
 have tT := Tryz.eTypeOfE
 have mR := Tryz.eMethodComparable
 have nE := Tryz.eNoIsE
 have uE := Tryz.eNoUnwrapE
 have vE := Tryz.eNoUnwrapsE
 have heq := run_eql_iface_ptr_other (P := Tryz.prog) w Tryz.underlying27 Tryz.underlying206 hi hcmp hj hjs hne ha hb
 go_enter Tryz.func45, Tryz.ntmps45
 go_wp2
 refine wp_loop_rounds 1 ?_
 rw [rounds_succ]
 go_wp2
 go_ret
 exact ⟨rfl, rfl⟩
theorem is_wrap_same (pb po : Nat) (b : Addr) (w : World) (h1 : w.cell? ⟨pb, po + 1, none⟩ = some (.iface 206 (.pointer (some b)))) :
  Calls Tryz.prog 45 #[.iface 54 (.pointer (some ⟨pb, po, none⟩)), .iface 206 (.pointer (some b))] w fun e w' => e = .returned (.bool true) ∧ w' = w := by
 obtain ⟨i, hi, hcmp⟩ := Option.map_eq_some_iff.1 Tryz.eComp
 obtain ⟨j, hj, hjs⟩ : ∃ j, Tryz.prog.info? 224 = some j ∧ j.size ≠ 0 := by
  rcases Tryz.eSize with h | h <;> obtain ⟨j, hj, hjs⟩ := Option.map_eq_some_iff.1 h <;> exact ⟨j, hj, by rw [hjs]; decide⟩
 have h8 := Tryz.eCallTypeOf
 have h32 := Tryz.eCallComparable
 have tT := Tryz.eTypeOfE
 have mR := Tryz.eMethodComparable
 have nW := Tryz.eNoIsF
 have uW := Tryz.eHasUnwrapF
 have mU := Tryz.eMethodUnwrap
 have heq := run_eql_iface_ptr_same (P := Tryz.prog) w b Tryz.underlying27 Tryz.underlying206 hi hcmp hj
 have hty := run_eql_iface_types (P := Tryz.prog) 54 206 (.pointer (some ⟨pb, po, none⟩)) (.pointer (some b)) Tryz.underlying27 (by decide) w
 go_enter Tryz.func45, Tryz.ntmps45
 go_wp2
 refine wp_loop_rounds 2 ?_
 rw [rounds_succ]
 go_wp2
 rw [rounds_succ]
 go_wp2
 go_ret
 exact ⟨rfl, rfl⟩
theorem is_wrap_other (pb po : Nat) (b a : Addr) (ca cb : Array Value) (ta tb : TypeId) (w : World) (h1 : w.cell? ⟨pb, po + 1, none⟩ = some (.iface 206 (.pointer (some a)))) (hne : a ≠ b) (ha : w.heap[a.block]? = some (.cells ca ta (0, 0))) (hb : w.heap[b.block]? = some (.cells cb tb (0, 0))) :
  Calls Tryz.prog 45 #[.iface 54 (.pointer (some ⟨pb, po, none⟩)), .iface 206 (.pointer (some b))] w fun e w' => e = .returned (.bool false) ∧ w' = w := by
 obtain ⟨i, hi, hcmp⟩ := Option.map_eq_some_iff.1 Tryz.eComp
 obtain ⟨j, hj, hjs⟩ : ∃ j, Tryz.prog.info? 224 = some j ∧ j.size ≠ 0 := by
  rcases Tryz.eSize with h | h <;> obtain ⟨j, hj, hjs⟩ := Option.map_eq_some_iff.1 h <;> exact ⟨j, hj, by rw [hjs]; decide⟩
 have h8 := Tryz.eCallTypeOf
 have h32 := Tryz.eCallComparable
 have tT := Tryz.eTypeOfE
 have mR := Tryz.eMethodComparable
 have nE := Tryz.eNoIsE
 have uE := Tryz.eNoUnwrapE
 have vE := Tryz.eNoUnwrapsE
 have nW := Tryz.eNoIsF
 have uW := Tryz.eHasUnwrapF
 have mU := Tryz.eMethodUnwrap
 have heq := run_eql_iface_ptr_other (P := Tryz.prog) w Tryz.underlying27 Tryz.underlying206 hi hcmp hj hjs hne ha hb
 have hty := run_eql_iface_types (P := Tryz.prog) 54 206 (.pointer (some ⟨pb, po, none⟩)) (.pointer (some b)) Tryz.underlying27 (by decide) w
 go_enter Tryz.func45, Tryz.ntmps45
 go_wp2
 refine wp_loop_rounds 2 ?_
 rw [rounds_succ]
 go_wp2
 rw [rounds_succ]
 go_wp2
 go_ret
 exact ⟨rfl, rfl⟩
abbrev err (a : Addr) : Value := .iface 206 (.pointer (some a))
def gOf (i : Nat) : Nat := [4, 2, 1, 5, 6, 0, 7, 8, 3, 9, 10, 11].getD i 0
structure Sent (w : World) (s : Nat → Addr) : Prop where
 cell : ∀ i, i < 12 → w.cell? ⟨gOf i, 0, none⟩ = some (err (s i))
 block : ∀ i, i < 12 → ∃ c t, w.heap[(s i).block]? = some (.cells c t (0, 0))
 inj : ∀ i j, i < 12 → j < 12 → s i = s j → i = j
def Handle (w : World) : Prop := w.cell? ⟨12, 0, none⟩ = some (.iface 157 (.agg #[.pointer (some ⟨17, 27, none⟩)]))
theorem block_lt {w : World} {b : Nat} {o : Obj} (h : w.heap[b]? = some o) : b < w.heap.size := by
 rcases Nat.lt_or_ge b w.heap.size with h' | h'
 ·exact h'
 ·simp [Array.getElem?_eq_none h'] at h
theorem Sent.below {w w' : World} {s : Nat → Addr} (h : Sent w s) (hb : Below w.heap.size w w') : Sent w' s where
 cell i hi := by rw [hb.cell (p := ⟨gOf i, 0, none⟩) (cell_lt (h.cell i hi))]; exact h.cell i hi
 block i hi := by
  obtain ⟨c, t, hc⟩ := h.block i hi
  exact ⟨c, t, by rw [hb.block _ (block_lt hc)]; exact hc⟩
 inj := h.inj
theorem Sent.cells {w : World} {s : Nat → Addr} (h : Sent w s) : w.cell? ⟨4, 0, none⟩ = some (err (s 0)) ∧ w.cell? ⟨2, 0, none⟩ = some (err (s 1)) ∧ w.cell? ⟨1, 0, none⟩ = some (err (s 2)) ∧ w.cell? ⟨5, 0, none⟩ = some (err (s 3)) ∧ w.cell? ⟨6, 0, none⟩ = some (err (s 4)) ∧ w.cell? ⟨0, 0, none⟩ = some (err (s 5)) ∧ w.cell? ⟨7, 0, none⟩ = some (err (s 6)) ∧ w.cell? ⟨8, 0, none⟩ = some (err (s 7)) ∧ w.cell? ⟨3, 0, none⟩ = some (err (s 8)) ∧ w.cell? ⟨9, 0, none⟩ = some (err (s 9)) ∧ w.cell? ⟨10, 0, none⟩ = some (err (s 10)) ∧ w.cell? ⟨11, 0, none⟩ = some (err (s 11)) :=
 ⟨h.cell 0 (by decide), h.cell 1 (by decide), h.cell 2 (by decide), h.cell 3 (by decide), h.cell 4 (by decide), h.cell 5 (by decide), h.cell 6 (by decide), h.cell 7 (by decide), h.cell 8 (by decide), h.cell 9 (by decide), h.cell 10 (by decide), h.cell 11 (by decide)⟩
theorem Handle.below {w w' : World} (h : Handle w) (hb : Below w.heap.size w w') : Handle w' := by
 unfold Handle at *
 rw [hb.cell (p := ⟨12, 0, none⟩) (cell_lt h)]; exact h
theorem code_err (a : Addr) (w : World) (s : Nat → Addr) (hs : Sent w s) (hh : Handle w) (ca : Array Value) (ta : TypeId) (ha : w.heap[a.block]? = some (.cells ca ta (0, 0))) :
  Calls Tryz.prog 25 #[err a] w fun e w' => (∃ c : Int, e = .returned (.tuple #[.int .i64 c, .int .i64 (-1)]) ∧ ((∃ i, i < 12 ∧ s i = a ∧ c = i + 1) ∨ ((∀ i, i < 12 → s i ≠ a) ∧ c = -1))) ∧ Below w.heap.size w w' := by
 have hsz := cell_lt hh
 have hA : ∀ t, Calls Tryz.prog 44 #[err a, .iface 112 (.pointer (some t))] (w.alloc (.cells #[.pointer none] 54)) fun ev w' => ev = .returned (.bool false) ∧ Below (w.alloc (.cells #[.pointer none] 54)).heap.size (w.alloc (.cells #[.pointer none] 54)) w' := fun t => by
  refine (as_miss a t _ (hh.below (Below.refl _ _ |>.alloc (Nat.le_refl _) _))).mono ?_
  rintro e w' ⟨rfl, rfl⟩
  exact ⟨rfl, (((Below.refl _ _).alloc (by simp) _).alloc (by simp) _).alloc (by simp) _⟩
 go_enter Tryz.func25, Tryz.ntmps25
 go_wp2_with (go_at_call 44; refine (hA _).mono ?_; rintro e w1 ⟨rfl, hb⟩; have hb0 : Below w.heap.size w w1 := ((Below.refl _ _).alloc (Nat.le_refl _) _).trans (hb.mono (by simp)); obtain ⟨c0, c1, c2, c3, c4, c5, c6, c7, c8, c9, c10, c11⟩ := (hs.below hb0).cells)
 have hs2 : Sent (w1.alloc (.cells #[err (s 0), err (s 1), err (s 2), err (s 3), err (s 4), err (s 5), err (s 6), err (s 7), err (s 8), err (s 9), err (s 10), err (s 11)] 27)) s := (hs.below hb0).below ((Below.refl _ _).alloc (Nat.le_refl _) _)
 have hb2 : Below w.heap.size w (w1.alloc (.cells #[err (s 0), err (s 1), err (s 2), err (s 3), err (s 4), err (s 5), err (s 6), err (s 7), err (s 8), err (s 9), err (s 10), err (s 11)] 27)) := hb0.alloc hb0.size _
 have hk2 : ∀ k, k < 12 → (w1.alloc (.cells #[err (s 0), err (s 1), err (s 2), err (s 3), err (s 4), err (s 5), err (s 6), err (s 7), err (s 8), err (s 9), err (s 10), err (s 11)] 27)).cell? ⟨w1.heap.size, k, none⟩ = some (err (s k)) := fun k hk => by
  rcases k with _ | _ | _ | _ | _ | _ | _ | _ | _ | _ | _ | _ | k <;> first | omega | simp
 have ha2 : (w1.alloc (.cells #[err (s 0), err (s 1), err (s 2), err (s 3), err (s 4), err (s 5), err (s 6), err (s 7), err (s 8), err (s 9), err (s 10), err (s 11)] 27)).heap[a.block]? = some (.cells ca ta (0, 0)) := by rw [hb2.block _ (block_lt ha)]; exact ha
 clear c0 c1 c2 c3 c4 c5 c6 c7 c8 c9 c10 c11 hb hA
 generalize (w1.alloc (.cells #[err (s 0), err (s 1), err (s 2), err (s 3), err (s 4), err (s 5), err (s 6), err (s 7), err (s 8), err (s 9), err (s 10), err (s 11)] 27)) = W2 at hs2 hb2 hk2 ha2 ⊢
 go_loop [3, 30] (fun c i => ∃ k : Nat, k ≤ 12 ∧ c = .int .i64 (-1) ∧ i = .int .i64 k ∧ ∀ j, j < k → s j ≠ a) (fun _ i => 12 - (intOf i).toNat)
 case atStart => exact ⟨0, by omega, rfl, rfl, fun j hj => by omega⟩
 case round =>
  obtain ⟨k, hk, rfl, rfl, hno⟩ := hrel
  by_cases hlt : k < 12
  ·have hck := hk2 k hlt
   obtain ⟨cb, tb, hbk⟩ := hs2.block k hlt
   by_cases he : s k = a
   ·go_wp2_with (go_at_call 45; refine (is_same a _).mono ?_; rintro e w' ⟨rfl, rfl⟩)
    go_ret2
    exact ⟨⟨_, rfl, Or.inl ⟨k, hlt, he, rfl⟩⟩, hb2⟩
   ·go_wp2_with (go_at_call 45; refine (is_other a (s k) ca cb ta tb _ (fun h => he h.symm) ha2 hbk).mono ?_; rintro e w' ⟨rfl, rfl⟩)
    go_round
    case rel => exact ⟨k + 1, by omega, rfl, by go_num, fun j hj => by
     rcases Nat.lt_succ_iff_lt_or_eq.1 hj with h | rfl
     ·exact hno j h
     ·exact he⟩
    case measure => simp [intOf]; omega
  ·go_wp2
   go_ret2
   exact ⟨⟨_, rfl, Or.inr ⟨fun i hi => hno i (by omega), rfl⟩⟩, hb2⟩
theorem code_fault (pb po : Nat) (n : Int) (a : Addr) (w : World) (s : Nat → Addr) (hs : Sent w s) (hh : Handle w) (hn : w.cell? ⟨pb, po, none⟩ = some (.int .i64 n)) (he : w.cell? ⟨pb, po + 1, none⟩ = some (err a)) (ca : Array Value) (ta : TypeId) (ha : w.heap[a.block]? = some (.cells ca ta (0, 0))) :
  Calls Tryz.prog 25 #[.iface 54 (.pointer (some ⟨pb, po, none⟩))] w fun e w' => (∃ c : Int, e = .returned (.tuple #[.int .i64 c, .int .i64 n]) ∧ ((∃ i, i < 12 ∧ s i = a ∧ c = i + 1) ∨ ((∀ i, i < 12 → s i ≠ a) ∧ c = -1))) ∧ Below w.heap.size w w' := by
 have hsz := cell_lt hh
 have hlt := cell_lt hn
 have hA : Calls Tryz.prog 44 #[.iface 54 (.pointer (some ⟨pb, po, none⟩)), .iface 112 (.pointer (some ⟨w.heap.size, 0, none⟩))] (w.alloc (.cells #[.pointer none] 54)) fun ev w' => ev = .returned (.bool true) ∧ Below w.heap.size w w' ∧ w'.cell? ⟨w.heap.size, 0, none⟩ = some (.pointer (some ⟨pb, po, none⟩)) := by
  refine (as_hit ⟨pb, po, none⟩ ⟨w.heap.size, 0, none⟩ (.pointer none) _ (hh.below (Below.refl _ _ |>.alloc (Nat.le_refl _) _)) (by simp) (by simp)).mono ?_
  rintro e w' ⟨rfl, rfl⟩
  refine ⟨rfl, (((((((Below.refl _ _).alloc (Nat.le_refl _) _).alloc (by simp) _).alloc (by simp; omega) _).alloc (by simp; omega) _).alloc (by simp; omega) _).setCell (by simp) _), ?_⟩
  exact World.cell?_setCell_same _ _ _ (u := .pointer none) (by rw [World.cell?_alloc_lt _ _ ⟨w.heap.size, 0, none⟩ (by simp; omega), World.cell?_alloc_lt _ _ ⟨w.heap.size, 0, none⟩ (by simp; omega), World.cell?_alloc_lt _ _ ⟨w.heap.size, 0, none⟩ (by simp; omega), World.cell?_alloc_lt _ _ ⟨w.heap.size, 0, none⟩ (by simp)]; simp)
 go_enter Tryz.func25, Tryz.ntmps25
 go_wp2_with (go_at_call 44; refine hA.mono ?_; rintro e w1 ⟨rfl, hb0, hf⟩; have hn1 := (hb0.cell (p := ⟨pb, po, none⟩) hlt).trans hn; obtain ⟨c0, c1, c2, c3, c4, c5, c6, c7, c8, c9, c10, c11⟩ := (hs.below hb0).cells)
 have hs2 : Sent (w1.alloc (.cells #[err (s 0), err (s 1), err (s 2), err (s 3), err (s 4), err (s 5), err (s 6), err (s 7), err (s 8), err (s 9), err (s 10), err (s 11)] 27)) s := (hs.below hb0).below ((Below.refl _ _).alloc (Nat.le_refl _) _)
 have hb2 : Below w.heap.size w (w1.alloc (.cells #[err (s 0), err (s 1), err (s 2), err (s 3), err (s 4), err (s 5), err (s 6), err (s 7), err (s 8), err (s 9), err (s 10), err (s 11)] 27)) := hb0.alloc hb0.size _
 have hk2 : ∀ k, k < 12 → (w1.alloc (.cells #[err (s 0), err (s 1), err (s 2), err (s 3), err (s 4), err (s 5), err (s 6), err (s 7), err (s 8), err (s 9), err (s 10), err (s 11)] 27)).cell? ⟨w1.heap.size, k, none⟩ = some (err (s k)) := fun k hk => by
  rcases k with _ | _ | _ | _ | _ | _ | _ | _ | _ | _ | _ | _ | k <;> first | omega | simp
 have ha2 : (w1.alloc (.cells #[err (s 0), err (s 1), err (s 2), err (s 3), err (s 4), err (s 5), err (s 6), err (s 7), err (s 8), err (s 9), err (s 10), err (s 11)] 27)).heap[a.block]? = some (.cells ca ta (0, 0)) := by rw [hb2.block _ (block_lt ha)]; exact ha
 have he2 : (w1.alloc (.cells #[err (s 0), err (s 1), err (s 2), err (s 3), err (s 4), err (s 5), err (s 6), err (s 7), err (s 8), err (s 9), err (s 10), err (s 11)] 27)).cell? ⟨pb, po + 1, none⟩ = some (err a) := (hb2.cell (p := ⟨pb, po + 1, none⟩) hlt).trans he
 clear c0 c1 c2 c3 c4 c5 c6 c7 c8 c9 c10 c11 hA he hn hn1 hf hb0
 generalize (w1.alloc (.cells #[err (s 0), err (s 1), err (s 2), err (s 3), err (s 4), err (s 5), err (s 6), err (s 7), err (s 8), err (s 9), err (s 10), err (s 11)] 27)) = W2 at hs2 hb2 hk2 ha2 he2 ⊢
 go_loop [3, 30] (fun c i => ∃ k : Nat, k ≤ 12 ∧ c = .int .i64 n ∧ i = .int .i64 k ∧ ∀ j, j < k → s j ≠ a) (fun _ i => 12 - (intOf i).toNat)
 case atStart => exact ⟨0, by omega, rfl, rfl, fun j hj => by omega⟩
 case round =>
  obtain ⟨k, hk, rfl, rfl, hno⟩ := hrel
  by_cases hlt : k < 12
  ·have hck := hk2 k hlt
   obtain ⟨cb, tb, hbk⟩ := hs2.block k hlt
   by_cases heq : s k = a
   ·go_wp2_with (go_at_call 45; refine (is_wrap_same pb po a _ he2).mono ?_; rintro e w' ⟨rfl, rfl⟩)
    go_ret2
    exact ⟨⟨_, rfl, Or.inl ⟨k, hlt, heq, rfl⟩⟩, hb2⟩
   ·go_wp2_with (go_at_call 45; refine (is_wrap_other pb po (s k) a ca cb ta tb _ he2 (fun h => heq h.symm) ha2 hbk).mono ?_; rintro e w' ⟨rfl, rfl⟩)
    go_round
    case rel => exact ⟨k + 1, by omega, rfl, by go_num, fun j hj => by
     rcases Nat.lt_succ_iff_lt_or_eq.1 hj with h | rfl
     ·exact hno j h
     ·exact heq⟩
    case measure => simp [intOf]; omega
  ·go_wp2
   go_ret2
   exact ⟨⟨_, rfl, Or.inr ⟨fun i hi => hno i (by omega), rfl⟩⟩, hb2⟩
theorem code_sent (i : Nat) (hi : i < 12) (w : World) (s : Nat → Addr) (hs : Sent w s) (hh : Handle w) :
  Calls Tryz.prog 25 #[err (s i)] w fun e w' => e = .returned (.tuple #[.int .i64 (i + 1 : Nat), .int .i64 (-1)]) ∧ Below w.heap.size w w' := by
 obtain ⟨ca, ta, ha⟩ := hs.block i hi
 refine (code_err (s i) w s hs hh ca ta ha).mono ?_
 rintro e w' ⟨⟨c, rfl, ⟨j, hj, hij, rfl⟩ | ⟨hno, rfl⟩⟩, hb⟩
 ·obtain rfl := hs.inj j i hj hi hij
  exact ⟨by simp, hb⟩
 ·exact absurd rfl (hno i hi)
theorem code_fault_sent (pb po : Nat) (n : Int) (i : Nat) (hi : i < 12) (w : World) (s : Nat → Addr) (hs : Sent w s) (hh : Handle w) (hn : w.cell? ⟨pb, po, none⟩ = some (.int .i64 n)) (he : w.cell? ⟨pb, po + 1, none⟩ = some (err (s i))) :
  Calls Tryz.prog 25 #[.iface 54 (.pointer (some ⟨pb, po, none⟩))] w fun e w' => e = .returned (.tuple #[.int .i64 (i + 1 : Nat), .int .i64 n]) ∧ Below w.heap.size w w' := by
 obtain ⟨ca, ta, ha⟩ := hs.block i hi
 refine (code_fault pb po n (s i) w s hs hh hn he ca ta ha).mono ?_
 rintro e w' ⟨⟨c, rfl, ⟨j, hj, hij, rfl⟩ | ⟨hno, rfl⟩⟩, hb⟩
 ·obtain rfl := hs.inj j i hj hi hij
  exact ⟨by simp, hb⟩
 ·exact absurd rfl (hno i hi)
end Go.Proofs.YtpnmbomjnpheeaaGreatDoor
namespace Go.Proofs.YtpnmbomjnpheeaaGreatDoor
open Go.RowKit (Below)
open Go.MapKept Go.ChangeMaps
open Go.Maps (Keyed)
abbrev Ent := Value × Value
def ents (es : Array MapEntry) : List Ent := es.toList.map fun x => (x.key, x.val)
def MapL (P : Program) (k : TypeId) (w : World) (b : Nat) (L : List Ent) : Prop :=
 ∃ es clock, w.heap[b]? = some (.map es clock) ∧ Stamped es clock ∧ (∀ x ∈ es.toList, ∃ l, keyOf P k x.key = some l) ∧ (ents es).Perm L
def RangeL (P : Program) (k : TypeId) (w : World) (b r : Nat) (L T : List Ent) : Prop :=
 ∃ es clock since seen c0, w.heap[b]? = some (.map es clock) ∧ Stamped es clock ∧ (∀ x ∈ es.toList, ∃ l, keyOf P k x.key = some l) ∧ (ents es).Perm L ∧
  w.heap[r]? = some (.mapIter (some b) since seen c0) ∧ (∀ x ∈ es.toList, x.born < since) ∧ (ents (leftOf es seen)).Perm T ∧ since ≤ c0 ∧ since ≤ clock
variable {P : Program} {k : TypeId} {w : World} {b r : Nat} {L T : List Ent}
theorem MapL.perm (h : MapL P k w b L) {L' : List Ent} (hp : L.Perm L') : MapL P k w b L' := by
 obtain ⟨es, clock, hb, hs, hk, hL⟩ := h
 exact ⟨es, clock, hb, hs, hk, hL.trans hp⟩
theorem MapL.lt (h : MapL P k w b L) : b < w.heap.size := by
 obtain ⟨es, clock, hb, _⟩ := h
 exact (Array.getElem?_eq_some_iff.1 hb).1
theorem MapL.of_block (h : MapL P k w b L) {w' : World} (he : w'.heap[b]? = w.heap[b]?) : MapL P k w' b L := by
 obtain ⟨es, clock, hb, rest⟩ := h
 exact ⟨es, clock, he.trans hb, rest⟩
theorem MapL.kept (h : MapL P k w b L) {w' : World} {row : Option Nat} (hg : w.grownBy w' row) (hne : some b ≠ row) : MapL P k w' b L := h.of_block (hg.block b h.lt hne)
theorem MapL.below (h : MapL P k w b L) {w' : World} {B : Nat} (hb : Below B w w') (hB : b < B) : MapL P k w' b L := h.of_block (hb.block b hB)
theorem MapL.made (P : Program) (k : TypeId) (w : World) : MapL P k (w.alloc (.map #[] 0)) w.heap.size [] :=
 ⟨#[], 0, Go.heap_alloc_new w _, stamped_empty 0, by simp, by simp [ents]⟩
theorem MapL.nodup (h : MapL P k w b L) : (L.map (·.1)).Nodup := by
 obtain ⟨es, clock, hb, hs, hk, hL⟩ := h
 refine (hL.map _).nodup_iff.1 ?_
 simpa [ents, Function.comp_def] using hs.2.2
theorem MapL.keys (h : MapL P k w b L) : ∀ x ∈ L, ∃ l, keyOf P k x.1 = some l := by
 obtain ⟨es, clock, hb, hs, hk, hL⟩ := h
 intro x hx
 obtain ⟨y, hy, rfl⟩ := List.mem_map.1 (hL.mem_iff.2 hx)
 exact hk y hy
theorem MapL.size_eq (h : MapL P k w b L) {es : Array MapEntry} {clock : Nat} (hb : w.heap[b]? = some (.map es clock)) : es.size = L.length := by
 obtain ⟨es', clock', hb', hs, hk, hL⟩ := h
 rw [hb] at hb'
 cases hb'
 have := hL.length_eq
 simpa [ents] using this
theorem MapL.ne_of_cells (h : MapL P k w b L) {p : Addr} {v : Value} (hc : w.cell? p = some v) : p.block ≠ b := by
 obtain ⟨es, clock, hb, _⟩ := h
 intro e
 subst e
 simp [World.cell?, hb] at hc
theorem turned_block {w w' : World} {b q : Nat} (h : w.mapTurned w' b) (hq : q ≠ b) : w'.heap[q]? = w.heap[q]? := by
 obtain ⟨es, clock, es', clock', hb, rfl⟩ := h
 exact heap_setBlock_other hb _ hq
theorem turned_cell {w w' : World} {b : Nat} {p : Addr} (h : w.mapTurned w' b) (hq : p.block ≠ b) : w'.cell? p = w.cell? p := World.cell?_of_block (turned_block h hq)
theorem turned_size {w w' : World} {b : Nat} (h : w.mapTurned w' b) : w'.heap.size = w.heap.size := by
 obtain ⟨es, clock, es', clock', hb, rfl⟩ := h
 simp [setBlock]
section
variable {t e : TypeId} (K : Keyed P k) (ht : P.underlying t = some (.map k e)) {key : Value} {kl : Lit} (hkey : keyOf P k key = some kl)
include K ht hkey
theorem MapL.look_hit (h : MapL P k w b L) {v : Value} (hm : (key, v) ∈ L) : (Instr.lookup t (.map (some b)) key false).run P w = .ok v w := by
 obtain ⟨es, clock, hb, hs, hk, hL⟩ := h
 obtain ⟨y, hy, ey⟩ := List.mem_map.1 (hL.mem_iff.2 hm)
 cases ey
 rcases K.find w hkey es.toList hk with ⟨f1, f2⟩ | ⟨j, e0, f1, f2, f3⟩
 ·exact absurd rfl (f2 y hy)
 ·have : e0 = y := entry_eq_of_key ((stamped_iff es clock).1 hs).2.2 (List.mem_of_getElem? f2) hy f3
  subst this
  simp [Instr.lookup, run_underlying ht, MapKept.run_getObj_map hb, K.check w _ hkey, f1, Result.andThen]
theorem MapL.look_miss (h : MapL P k w b L) {z : Value} (hz : (zeroValue e).run P w = .ok z w) (hm : ∀ v, (key, v) ∉ L) : (Instr.lookup t (.map (some b)) key false).run P w = .ok z w := by
 obtain ⟨es, clock, hb, hs, hk, hL⟩ := h
 rcases K.find w hkey es.toList hk with ⟨f1, f2⟩ | ⟨j, e0, f1, f2, f3⟩
 ·simp [Instr.lookup, run_underlying ht, MapKept.run_getObj_map hb, K.check w _ hkey, f1, hz, Result.andThen]
 ·exact absurd (hL.mem_iff.1 (List.mem_map.2 ⟨e0, List.mem_of_getElem? f2, by rw [f3]⟩)) (hm e0.val)
theorem MapL.store_old (h : MapL P k w b L) (v : Value) {u : Value} {L0 : List Ent} (hm : L.Perm ((key, u) :: L0)) : ∃ w', (Instr.mapUpdate t (.map (some b)) key v).run P w = .ok () w' ∧ MapL P k w' b ((key, v) :: L0) ∧ w.mapTurned w' b := by
 obtain ⟨es, clock, hb, hs, hk, hL⟩ := h
 obtain ⟨y, hy, ey⟩ := List.mem_map.1 ((hL.trans hm).mem_iff.2 (List.mem_cons_self ..))
 cases ey
 rcases K.find w hkey es.toList hk with ⟨f1, f2⟩ | ⟨j, e0, f1, f2, f3⟩
 ·exact absurd rfl (f2 y hy)
 ·obtain rfl : e0 = y := entry_eq_of_key ((stamped_iff es clock).1 hs).2.2 (List.mem_of_getElem? f2) hy f3
  have hj : es[j]? = some e0 := by simpa using f2
  have hjl : j < es.toList.length := (List.getElem?_eq_some_iff.1 f2).1
  have hlist : (es.modify j (fun e' => { e' with key := e0.key, val := v })).toList = es.toList.set j { e0 with key := e0.key, val := v } := by rw [Array.toList_modify, modify_eq_set _ _ _ _ f2]
  refine ⟨setBlock w b (.map (es.modify j (fun e' => { e' with key := e0.key, val := v })) clock), ?_, ⟨_, _, heap_setBlock_same hb _, stamped_modify hs _ _ (fun _ _ => rfl) (fun e' _ he' => by rw [hj] at he'; cases he'; rfl), ?_, ?_⟩, ⟨es, clock, _, _, hb, rfl⟩⟩
  ·simp [Instr.mapUpdate, run_underlying ht, MapKept.run_getObj_map hb, K.check w false hkey, f1, hj, K.stays w hkey, MapKept.run_setObj_map _ hb, Result.andThen, setBlock]
  ·intro x hx
   rw [hlist] at hx
   rcases List.mem_or_eq_of_mem_set hx with h | rfl
   ·exact hk x h
   ·exact ⟨_, hkey⟩
  ·unfold ents
   rw [hlist, List.map_set]
   refine (set_perm _ _ (by simpa using hjl) _).trans (List.Perm.cons _ ?_)
   have h1 : (ents es).Perm ((e0.key, e0.val) :: (ents es).eraseIdx j) := by
    have hget : (ents es)[j]? = some (e0.key, e0.val) := by unfold ents; rw [List.getElem?_map, f2]; rfl
    obtain ⟨hlt, hget'⟩ := List.getElem?_eq_some_iff.1 hget
    have := set_perm (ents es) j hlt (e0.key, e0.val)
    rwa [← hget', List.set_getElem_self, hget'] at this
   exact (h1.symm.trans (hL.trans hm)).cons_inv
theorem MapL.drop (h : MapL P k w b L) {u : Value} {L0 : List Ent} (hm : L.Perm ((key, u) :: L0)) : ∃ w', (∀ ty, (Builtin.delete_ #[t, k] ty #[.map (some b), key]).run P w = .ok (.tuple #[]) w') ∧ MapL P k w' b L0 ∧ w.mapTurned w' b := by
 obtain ⟨es, clock, hb, hs, hk, hL⟩ := h
 obtain ⟨y, hy, ey⟩ := List.mem_map.1 ((hL.trans hm).mem_iff.2 (List.mem_cons_self ..))
 cases ey
 rcases K.find w hkey es.toList hk with ⟨f1, f2⟩ | ⟨j, e0, f1, f2, f3⟩
 ·exact absurd rfl (f2 y hy)
 ·obtain rfl : e0 = y := entry_eq_of_key ((stamped_iff es clock).1 hs).2.2 (List.mem_of_getElem? f2) hy f3
  have hjl : j < es.toList.length := (List.getElem?_eq_some_iff.1 f2).1
  have hjs : j < es.size := by simpa using hjl
  have hsub : (es.eraseIdxIfInBounds j).toList = es.toList.eraseIdx j := by
   unfold Array.eraseIdxIfInBounds
   rw [dif_pos hjs]
   simp
  refine ⟨setBlock w b (.map (es.eraseIdxIfInBounds j) clock), ?_, ⟨_, _, heap_setBlock_same hb _, stamped_erase hs j, ?_, ?_⟩, ⟨es, clock, _, _, hb, rfl⟩⟩
  ·intro ty
   simp [Builtin.delete_, run_underlying ht, MapKept.run_getObj_map hb, K.check w _ hkey, f1, MapKept.run_setObj_map _ hb, Result.andThen, setBlock]
  ·intro x hx
   rw [hsub] at hx
   exact hk x ((List.eraseIdx_sublist _ _).subset hx)
  ·unfold ents
   rw [hsub, map_eraseIdx]
   have h1 : (ents es).Perm ((e0.key, e0.val) :: (ents es).eraseIdx j) := by
    have hget : (ents es)[j]? = some (e0.key, e0.val) := by unfold ents; rw [List.getElem?_map, f2]; rfl
    obtain ⟨hlt, hget'⟩ := List.getElem?_eq_some_iff.1 hget
    have := set_perm (ents es) j hlt (e0.key, e0.val)
    rwa [← hget', List.set_getElem_self, hget'] at this
   exact (h1.symm.trans (hL.trans hm)).cons_inv
end
theorem run_entryStore_at {t : TypeId} {w2 : World} {es : Array MapEntry} {clock j st : Nat} (hb : w2.heap[b]? = some (.map es clock)) (hidx : es.findIdx? (fun e => ((e.born : Nat) : Int) == ((st : Nat) : Int)) = some j) (val : Value) :
  (Instr.entryStore t (.map (some b)) (.int .i64 st) val).run P w2 = .ok () (setBlock w2 b (.map (es.modify j (fun e' => { e' with val := val })) clock)) := by
 simp [Instr.entryStore, MapKept.run_getObj_map hb, asInt, asIntOf, hidx, MapKept.run_setObj_map _ hb, Result.andThen, setBlock]
theorem setBlock_twice (w : World) (b : Nat) (o o' : Obj) : setBlock (setBlock w b o) b o' = setBlock w b o' := by simp [setBlock]
theorem MapL.entry_new {t e : TypeId} (K : Keyed P k) (ht : P.underlying t = some (.map k e)) {key : Value} {kl : Lit} (hkey : keyOf P k key = some kl) (h : MapL P k w b L) {z : Value} (hz : ∀ u : World, (zeroValue e).run P u = .ok z u) (hm : ∀ v, (key, v) ∉ L) :
  ∃ (st : Nat) (w2 : World), (Instr.mapEntry t (.map (some b)) key).run P w = .ok (.tuple #[z, .int .i64 st]) w2 ∧ (Instr.lookup t (.map (some b)) key false).run P w2 = .ok z w2 ∧ w.mapTurned w2 b ∧
   ∀ val, ∃ w3, (Instr.entryStore t (.map (some b)) (.int .i64 st) val).run P w2 = .ok () w3 ∧ MapL P k w3 b ((key, val) :: L) ∧ w.mapTurned w3 b := by
 obtain ⟨es, clock, hb, hs, hk, hL⟩ := h
 rcases K.find w hkey es.toList hk with ⟨f1, f2⟩ | ⟨j, e0, f1, f2, f3⟩
 ·have hb2 := heap_setBlock_same hb (Obj.map (es.push ⟨key, z, clock⟩) (clock + 1))
  have hkeys : ∀ v, ∀ x ∈ (es.push ⟨key, v, clock⟩).toList, ∃ l, keyOf P k x.key = some l := by
   intro v x hx
   simp only [Array.toList_push, List.mem_append, List.mem_singleton] at hx
   rcases hx with hx | rfl
   ·exact hk x hx
   ·exact ⟨_, hkey⟩
  have hperm : ∀ v, (ents (es.push ⟨key, v, clock⟩)).Perm ((key, v) :: L) := by
   intro v
   unfold ents
   rw [Array.toList_push, List.map_append]
   exact (List.perm_append_singleton _ _).trans (hL.cons _)
  have hpush : MapL P k (setBlock w b (.map (es.push ⟨key, z, clock⟩) (clock + 1))) b ((key, z) :: L) := ⟨_, _, hb2, stamped_push hs f2, hkeys z, hperm z⟩
  refine ⟨clock, setBlock w b (.map (es.push ⟨key, z, clock⟩) (clock + 1)), ?_, hpush.look_hit K ht hkey (List.mem_cons_self ..), ⟨es, clock, _, _, hb, rfl⟩, fun val => ⟨setBlock w b (.map (es.push ⟨key, val, clock⟩) (clock + 1)), ?_, ⟨_, _, heap_setBlock_same hb _, stamped_push hs f2, hkeys val, hperm val⟩, ⟨es, clock, _, _, hb, rfl⟩⟩⟩
  ·simp [Instr.mapEntry, run_underlying ht, MapKept.run_getObj_map hb, K.check w false hkey, f1, hz, MapKept.run_setObj_map _ hb, Result.andThen, setBlock, goInt]
  ·have hidx : (es.push ⟨key, z, clock⟩).findIdx? (fun e => ((e.born : Nat) : Int) == ((clock : Nat) : Int)) = some es.size := by
    rw [WideElems.findIdx_arr]
    exact WideElems.findIdx_born (l := (es.push ⟨key, z, clock⟩).toList) (j := es.size) (e0 := ⟨key, z, clock⟩) (stamped_push hs f2 (val := z)).2.1 (by simp)
   have hmod : (es.push ⟨key, z, clock⟩).modify es.size (fun e => { e with val := val }) = es.push ⟨key, val, clock⟩ := by
    apply Array.ext'
    rw [Array.toList_modify, Array.toList_push, Array.toList_push, ← Array.length_toList, WideElems.modify_last]
   rw [run_entryStore_at hb2 hidx, hmod, setBlock_twice]
 ·exact absurd (hL.mem_iff.1 (List.mem_map.2 ⟨e0, List.mem_of_getElem? f2, by rw [f3]⟩)) (hm e0.val)
theorem MapL.entry_old {t e : TypeId} (K : Keyed P k) (ht : P.underlying t = some (.map k e)) {key : Value} {kl : Lit} (hkey : keyOf P k key = some kl) (h : MapL P k w b L) {u : Value} {L0 : List Ent} (hm : L.Perm ((key, u) :: L0)) :
  ∃ (st : Nat) (w2 : World), (Instr.mapEntry t (.map (some b)) key).run P w = .ok (.tuple #[u, .int .i64 st]) w2 ∧ (Instr.lookup t (.map (some b)) key false).run P w2 = .ok u w2 ∧ w.mapTurned w2 b ∧
   ∀ val, ∃ w3, (Instr.entryStore t (.map (some b)) (.int .i64 st) val).run P w2 = .ok () w3 ∧ MapL P k w3 b ((key, val) :: L0) ∧ w.mapTurned w3 b := by
 have hst := fun val => h.store_old K ht hkey val hm
 obtain ⟨es, clock, hb, hs, hk, hL⟩ := h
 obtain ⟨y, hy, ey⟩ := List.mem_map.1 ((hL.trans hm).mem_iff.2 (List.mem_cons_self ..))
 cases ey
 rcases K.find w hkey es.toList hk with ⟨f1, f2⟩ | ⟨j, e0, f1, f2, f3⟩
 ·exact absurd rfl (f2 y hy)
 ·obtain rfl : e0 = y := entry_eq_of_key ((stamped_iff es clock).1 hs).2.2 (List.mem_of_getElem? f2) hy f3
  have hj : es[j]? = some e0 := by simpa using f2
  have hsame : es.modify j (fun e => { e with key := e0.key }) = es := by
   apply Array.ext'
   rw [Array.toList_modify, modify_eq_set _ _ _ _ f2]
   exact WideElems.set_self _ _ _ f2
  have hb2 := heap_setBlock_same hb (Obj.map es clock)
  have hM : MapL P k (setBlock w b (.map es clock)) b ((e0.key, e0.val) :: L0) := ⟨es, clock, hb2, hs, hk, hL.trans hm⟩
  refine ⟨e0.born, setBlock w b (.map es clock), ?_, hM.look_hit K ht hkey (List.mem_cons_self ..), ⟨es, clock, _, _, hb, rfl⟩, fun val => ⟨setBlock w b (.map (es.modify j (fun e' => { e' with val := val })) clock), ?_, ?_, ⟨es, clock, _, _, hb, rfl⟩⟩⟩
  ·simp [Instr.mapEntry, run_underlying ht, MapKept.run_getObj_map hb, K.check w false hkey, f1, hj, K.stays w hkey, hsame, MapKept.run_setObj_map _ hb, Result.andThen, setBlock, goInt]
  ·have hidx : es.findIdx? (fun e => ((e.born : Nat) : Int) == ((e0.born : Nat) : Int)) = some j := by
    rw [WideElems.findIdx_arr]
    exact WideElems.findIdx_born hs.2.1 f2
   rw [run_entryStore_at hb2 hidx, setBlock_twice]
  ·obtain ⟨w3, hrun, h3, _⟩ := hst val
   have hmod : es.modify j (fun e => { e with val := val }) = es.modify j (fun e' => { e' with key := e0.key, val := val }) := by
    apply Array.ext'
    rw [Array.toList_modify, Array.toList_modify, modify_eq_set _ _ _ _ f2, modify_eq_set _ _ _ _ f2]
   have : (Instr.mapUpdate t (.map (some b)) e0.key val).run P w = .ok () (setBlock w b (.map (es.modify j (fun e' => { e' with val := val })) clock)) := by
    rw [hmod]
    simp [Instr.mapUpdate, run_underlying ht, MapKept.run_getObj_map hb, K.check w false hkey, f1, hj, K.stays w hkey, MapKept.run_setObj_map _ hb, Result.andThen, setBlock]
   rw [hrun] at this
   cases this
   exact h3
theorem MapL.len (h : MapL P k w b L) {t e : TypeId} (ht : P.underlying t = some (.map k e)) (ty : TypeId) : (Builtin.len_ #[t] ty #[.map (some b)]).run P w = .ok (.int .i64 L.length) w := by
 have h' := h
 obtain ⟨es, clock, hb, _⟩ := h
 rw [← h'.size_eq hb]
 simp [Builtin.len_, run_underlying ht, MapKept.run_getObj_map hb, goInt, Result.andThen]
theorem MapL.range (h : MapL P k w b L) {t e : TypeId} (ht : P.underlying t = some (.map k e)) :
  ∃ w', (Instr.range t (.map (some b))).run P w = .ok (.pointer (some ⟨w.heap.size, 0, none⟩)) w' ∧ RangeL P k w' b w.heap.size L L ∧ w.grownBy w' none ∧ w'.heap.size = w.heap.size + 1 := by
 have hlt := h.lt
 obtain ⟨es, clock, hb, hs, hk, hL⟩ := h
 refine ⟨_, run_range_map w t k e b es clock ht hb, ⟨es, clock, clock, #[], clock, ((MapKept.heap_alloc w _).2 b hlt).trans hb, hs, hk, hL, Go.heap_alloc_new w _, hs.1, ?_, Nat.le_refl _, Nat.le_refl _⟩, World.grownBy_alloc w _ none, by simp⟩
 have : leftOf es #[] = es := by unfold leftOf; simp
 rw [this]; exact hL
theorem RangeL.map (h : RangeL P k w b r L T) : MapL P k w b L := by
 obtain ⟨es, clock, since, seen, c0, hb, hs, hk, hL, _⟩ := h
 exact ⟨es, clock, hb, hs, hk, hL⟩
theorem RangeL.lt (h : RangeL P k w b r L T) : r < w.heap.size := by
 obtain ⟨es, clock, since, seen, c0, hb, hs, hk, hL, hr, _⟩ := h
 exact (Array.getElem?_eq_some_iff.1 hr).1
theorem RangeL.ne (h : RangeL P k w b r L T) : r ≠ b := by
 obtain ⟨es, clock, since, seen, c0, hb, hs, hk, hL, hr, _⟩ := h
 intro e; rw [e, hb] at hr; cases hr
theorem RangeL.left_eq (h : RangeL P k w b r L T) : w.rangeLeft b r = T.length := by
 obtain ⟨es, clock, since, seen, c0, hb, hs, hk, hL, hr, _, hT, _⟩ := h
 simp only [World.rangeLeft, hb, hr]
 have := hT.length_eq
 simpa [ents] using this
theorem RangeL.kept (h : RangeL P k w b r L T) {w' : World} {row : Option Nat} (hg : w.grownBy w' row) (hb' : some b ≠ row) (hr' : some r ≠ row) : RangeL P k w' b r L T := by
 have h1 := h.map.lt
 have h2 := h.lt
 obtain ⟨es, clock, since, seen, c0, hb, hs, hk, hL, hr, rest⟩ := h
 exact ⟨es, clock, since, seen, c0, (hg.block b h1 hb').trans hb, hs, hk, hL, (hg.block r h2 hr').trans hr, rest⟩
theorem RangeL.below (h : RangeL P k w b r L T) {w' : World} {B : Nat} (hB : Below B w w') (h1 : b < B) (h2 : r < B) : RangeL P k w' b r L T := by
 obtain ⟨es, clock, since, seen, c0, hb, hs, hk, hL, hr, rest⟩ := h
 exact ⟨es, clock, since, seen, c0, (hB.block b h1).trans hb, hs, hk, hL, (hB.block r h2).trans hr, rest⟩
theorem left_out (e : MapEntry) : ∀ l : List MapEntry, (l.map (·.born)).Nodup → e ∈ l → l.Perm (e :: l.filter fun x => !(x.born == e.born))
 | x :: l, hn, he => by
  obtain ⟨h1, h2⟩ : x.born ∉ l.map (·.born) ∧ (l.map (·.born)).Nodup := List.nodup_cons.1 hn
  rcases List.mem_cons.1 he with rfl | h
  ·have : l.filter (fun x => !(x.born == e.born)) = l := List.filter_eq_self.2 (fun y hy => by
    have : y.born ≠ e.born := fun c => h1 (List.mem_map.2 ⟨y, hy, c⟩)
    simpa using this)
   simp [this]
  ·have hx : (x.born == e.born) = false := by
    cases hc : x.born == e.born with
    | false => rfl
    | true => exact absurd (List.mem_map.2 ⟨e, h, (beq_iff_eq.1 hc).symm⟩) h1
   rw [List.filter_cons_of_pos (by simp [hx])]
   exact ((left_out e l h2 h).cons x).trans (List.Perm.swap _ _ _)
theorem RangeL.next (h : RangeL P k w b r L T) (ty : TypeId) :
  (T = [] ∧ (Instr.next (.pointer (some ⟨r, 0, none⟩)) false ty).run P w = .ok (.tuple #[.bool false]) w) ∨
  ∃ x T' w', T.Perm (x :: T') ∧ (Instr.next (.pointer (some ⟨r, 0, none⟩)) false ty).run P w = .ok (.tuple #[.bool true, x.1, x.2]) w' ∧ RangeL P k w' b r L T' ∧ w.grownBy w' (some r) ∧ w'.heap.size = w.heap.size ∧ (Instr.entry (.pointer (some ⟨r, 0, none⟩))).run P w' = .ok (.tuple #[x.1, x.2]) w' := by
 have hne := h.ne
 obtain ⟨es, clock, since, seen, c0, hb, hs, hk, hL, hr, hold, hT, hsc, hsk⟩ := h
 have hst := (stamped_iff es clock).1 hs
 rcases run_next_at (P := P) w ty r b since c0 seen es clock hr hb hold hsc with ⟨h0, hrun⟩ | ⟨e, he, w1, hal, hrun⟩
 ·refine Or.inl ⟨?_, hrun⟩
  have : leftOf es seen = #[] := Array.eq_empty_of_size_eq_zero h0
  rw [this] at hT
  exact (List.nil_perm.1 hT)
 ·obtain ⟨hem, hes⟩ := mem_left he
  have hr1 : w1.heap[r]? = some (.mapIter (some b) since seen c0) := by rcases hal with rfl | rfl <;> exact hr
  have hb1 : w1.heap[b]? = some (.map es clock) := by rcases hal with rfl | rfl <;> exact hb
  have hset := heap_set (o' := .mapIter (some b) since (seen.push e.born) clock) hr1
  have hb' : (setBlock w1 r (.mapIter (some b) since (seen.push e.born) clock)).heap[b]? = some (.map es clock) := (hset.2 b (fun e1 => hne e1.symm)).trans hb1
  have hleft : (leftOf es (seen.push e.born)).toList = (leftOf es seen).toList.filter (fun x => !(x.born == e.born)) := by
   unfold leftOf
   rw [Array.toList_filter, Array.toList_filter, List.filter_filter]
   refine List.filter_congr fun x hx => ?_
   rw [contains_push]
   cases seen.contains x.born <;> cases (x.born == e.born) <;> rfl
  have hnd : ((leftOf es seen).toList.map (·.born)).Nodup := by
   unfold leftOf
   rw [Array.toList_filter]
   exact (List.filter_sublist.map _).nodup hst.2.1
  refine Or.inr ⟨(e.key, e.val), ents (leftOf es (seen.push e.born)), _, ?_, hrun, ⟨es, clock, since, seen.push e.born, clock, hb', hs, hk, hL, hset.1, hold, List.Perm.refl _, hsk, hsk⟩, ?_, ?_, run_entry_at _ r b since seen es clock e hset.1 hb' hem hst.2.1⟩
  ·refine hT.symm.trans ?_
   unfold ents
   rw [hleft]
   exact (left_out e _ hnd he).map (fun x : MapEntry => (x.key, x.val))
  ·rcases hal with rfl | rfl <;> exact ⟨rfl, rfl, rfl, by simp [setBlock], fun i _ hi => hset.2 i (fun e1 => hi (by rw [e1]))⟩
  ·rcases hal with rfl | rfl <;> simp [setBlock]
section
variable {w : World} {ops : Array Oper} {rest : List Oper} {o : Oper} {a : Act} {Q : Exit → Act → World → Prop}
theorem wpL_range (hg : o.guard = none) (m : Operand) (t : TypeId) (hop : o.op = Op.range t m) (k e : TypeId) (ht : P.underlying t = some (.map k e)) (b : Nat) (L : List Ent) (hm : a.eval m = .map (some b)) (h : MapL P k w b L)
  (hK : ∀ w', RangeL P k w' b w.heap.size L L → w.grownBy w' none → w'.heap.size = w.heap.size + 1 → wpList P ops Q rest (a.put o.dst (.pointer (some ⟨w.heap.size, 0, none⟩))) w') : wpList P ops Q (o :: rest) a w := by
 refine wpList_plain hg fun K' hK' => ?_
 obtain ⟨w', hrun, r1, r2, r3⟩ := h.range ht
 unfold Oper.wp
 simp [execOp, hop, hm, hrun, Result.andThen]
 exact hK' _ _ (hK w' r1 r2 r3)
theorem wpL_next (hg : o.guard = none) (it : Operand) (hop : o.op = Op.next it false) (k : TypeId) (b r : Nat) (L T : List Ent) (hit : a.eval it = .pointer (some ⟨r, 0, none⟩)) (h : RangeL P k w b r L T)
  (hDone : T = [] → wpList P ops Q rest (a.put o.dst (.tuple #[.bool false])) w)
  (hMore : ∀ x T' w', T.Perm (x :: T') → RangeL P k w' b r L T' → w.grownBy w' (some r) → w'.heap.size = w.heap.size → (Instr.entry (.pointer (some ⟨r, 0, none⟩))).run P w' = .ok (.tuple #[x.1, x.2]) w' → wpList P ops Q rest (a.put o.dst (.tuple #[.bool true, x.1, x.2])) w') : wpList P ops Q (o :: rest) a w := by
 refine wpList_plain hg fun K' hK' => ?_
 unfold Oper.wp
 rcases h.next o.type with ⟨h0, hrun⟩ | ⟨x, T', w', hp, hrun, hrg, hgr, hsz, hen⟩
 ·simp [execOp, hop, hit, hrun, Result.andThen]
  exact hK' _ _ (hDone h0)
 ·simp [execOp, hop, hit, hrun, Result.andThen]
  exact hK' _ _ (hMore x T' w' hp hrg hgr hsz hen)
theorem stepL_delete {K : Act → World → Prop} {Q' : Exit → Act → World → Prop} {E : Prop} (hg : o.guard = none) (m x : Operand) (t k : TypeId) (hop : o.op = Op.call { callee := Callee.builtin Builtin.delete, args := #[m, x], argTypes := #[t, k] }) (b : Nat) (key : Value) (hm : a.eval m = .map (some b)) (hx : a.eval x = key) (w' : World)
  (hr : ∀ ty, (Builtin.delete_ #[t, k] ty #[.map (some b), key]).run P w = .ok (.tuple #[]) w') (hK : K (a.put o.dst (.tuple #[])) w') : if Region.wanted o (yielded ops a.tmps) = true then Oper.wp P o a w K Q' else E := by
 have hw : Region.wanted o (yielded ops a.tmps) = true := by simp [Region.wanted, hg]
 rw [if_pos hw]
 unfold Oper.wp
 simp [execOp, hop, resolve, invoke, builtin, hm, hx, hr o.type, Result.andThen]
 exact hK
theorem wpL_len (hg : o.guard = none) (m : Operand) (t : TypeId) (hop : o.op = Op.call { callee := Callee.builtin Builtin.len, args := #[m], argTypes := #[t] }) (k e : TypeId) (ht : P.underlying t = some (.map k e)) (b : Nat) (L : List Ent) (N : Nat) (hN : L.length = N) (hm : a.eval m = .map (some b)) (h : MapL P k w b L)
  (hK : wpList P ops Q rest (a.put o.dst (.int .i64 N)) w) : wpList P ops Q (o :: rest) a w := by
 subst hN
 refine wpList_plain hg fun K' hK' => ?_
 unfold Oper.wp
 simp [execOp, hop, resolve, invoke, builtin, hm, h.len ht o.type, Result.andThen]
 exact hK' _ _ hK
end
end Go.Proofs.YtpnmbomjnpheeaaGreatDoor
namespace Go.Proofs.YtpnmbomjnpheeaaGreatDoor
open Go.Lib
abbrev Ly := Int × Int
def hasY (m : List Ly) : Int := (m.map fun x => x.1).sum
def worthY (m : List Ly) : Int := (m.map fun x => x.1 * x.2).sum
def PosY (m : List Ly) : Prop := ∀ x ∈ m, 1 ≤ x.1 ∧ 0 ≤ x.2 ∧ x.2 ≤ 1048576
structure LyOk (m : List Ly) : Prop where
 pos : PosY m
 most : hasY m ≤ 1099511627776
theorem hasY_cons (x : Ly) (m : List Ly) : hasY (x :: m) = x.1 + hasY m := by unfold hasY; simp
theorem worthY_cons (x : Ly) (m : List Ly) : worthY (x :: m) = x.1 * x.2 + worthY m := by unfold worthY; simp
theorem hasY_app (m m' : List Ly) : hasY (m ++ m') = hasY m + hasY m' := by unfold hasY; simp
theorem worthY_app (m m' : List Ly) : worthY (m ++ m') = worthY m + worthY m' := by unfold worthY; simp
theorem hasY_nil : hasY [] = 0 := rfl
theorem worthY_nil : worthY [] = 0 := rfl
theorem PosY.tail {x : Ly} {m : List Ly} (h : PosY (x :: m)) : PosY m := fun y hy => h y (List.mem_cons_of_mem _ hy)
theorem PosY.head {x : Ly} {m : List Ly} (h : PosY (x :: m)) : 1 ≤ x.1 ∧ 0 ≤ x.2 ∧ x.2 ≤ 1048576 := h x (List.mem_cons_self ..)
theorem hasY_len : ∀ {m : List Ly}, PosY m → (m.length : Int) ≤ hasY m
 | [], _ => by rw [hasY_nil]; simp
 | x :: m, h => by
  have := hasY_len h.tail
  have := h.head
  rw [hasY_cons, List.length_cons]
  omega
theorem hasY_nonneg {m : List Ly} (h : PosY m) : 0 ≤ hasY m := by have := hasY_len h; omega
theorem cost_bound {n c : Int} (h0 : 0 ≤ n) (c0 : 0 ≤ c) (c1 : c ≤ 1048576) : 0 ≤ n * c ∧ n * c ≤ n * 1048576 := ⟨Int.mul_nonneg h0 c0, Int.mul_le_mul_of_nonneg_left c1 h0⟩
theorem worthY_bound : ∀ {m : List Ly}, PosY m → 0 ≤ worthY m ∧ worthY m ≤ hasY m * 1048576
 | [], _ => by rw [worthY_nil, hasY_nil]; omega
 | x :: m, h => by
  obtain ⟨h1, h2⟩ := worthY_bound h.tail
  obtain ⟨p1, p2, p3⟩ := h.head
  obtain ⟨q1, q2⟩ := cost_bound (n := x.1) (by omega) p2 p3
  rw [worthY_cons, hasY_cons, Int.add_mul]
  omega
theorem worth_most {m : List Ly} (h : LyOk m) : 0 ≤ worthY m ∧ worthY m ≤ 1152921504606846976 := by
 obtain ⟨h1, h2⟩ := worthY_bound h.pos
 have := h.most
 omega
theorem hasY_take {m : List Ly} (h : PosY m) (k : Nat) : 0 ≤ hasY (m.take k) ∧ hasY (m.take k) ≤ hasY m := by
 have e : m = m.take k ++ m.drop k := (List.take_append_drop k m).symm
 have h1 : PosY (m.take k) := fun x hx => h x (List.mem_of_mem_take hx)
 have h2 : PosY (m.drop k) := fun x hx => h x (List.mem_of_mem_drop hx)
 have := hasY_nonneg h1
 have := hasY_nonneg h2
 refine ⟨by omega, ?_⟩
 conv => rhs; rw [e, hasY_app]
 omega
def inE (m : List Ly) (n c : Int) : Nat := if 1 ≤ n ∧ n ≤ 1099511627776 ∧ 0 ≤ c ∧ c ≤ 1048576 ∧ hasY m + n ≤ 1099511627776 then 0 else 2
def addL (m : List Ly) (n c : Int) : List Ly := match m.getLast? with
 | some x => if x.2 = c then m.dropLast ++ [(x.1 + n, c)] else m ++ [(n, c)]
 | none => [(n, c)]
def inL (m : List Ly) (n c : Int) : List Ly := if inE m n c = 0 then addL m n c else m
theorem addL_nil (n c : Int) : addL [] n c = [(n, c)] := rfl
theorem addL_snoc (m : List Ly) (x : Ly) (n c : Int) : addL (m ++ [x]) n c = if x.2 = c then m ++ [(x.1 + n, c)] else m ++ [x] ++ [(n, c)] := by
 unfold addL
 rw [List.getLast?_append]
 simp
theorem addL_has (m : List Ly) (n c : Int) : hasY (addL m n c) = hasY m + n ∧ worthY (addL m n c) = worthY m + n * c ∧ (addL m n c).length ≤ m.length + 1 := by
 rcases List.eq_nil_or_concat m with rfl | ⟨m, x, rfl⟩
 ·rw [addL_nil, hasY_cons, worthY_cons, hasY_nil, worthY_nil]
  simp
 ·rw [List.concat_eq_append, addL_snoc]
  by_cases h : x.2 = c
  ·rw [if_pos h]
   simp only [hasY_app, worthY_app, hasY_cons, worthY_cons, hasY_nil, worthY_nil, List.length_append, List.length_singleton]
   subst h
   rw [Int.add_mul]
   refine ⟨by omega, by omega, by omega⟩
  ·rw [if_neg h]
   simp only [hasY_app, worthY_app, hasY_cons, worthY_cons, hasY_nil, worthY_nil, List.length_append, List.length_singleton]
   refine ⟨by omega, by omega, by omega⟩
theorem addL_pos {m : List Ly} (h : PosY m) {n c : Int} (hn : 1 ≤ n) (c0 : 0 ≤ c) (c1 : c ≤ 1048576) : PosY (addL m n c) := by
 rcases List.eq_nil_or_concat m with rfl | ⟨m, x, rfl⟩
 ·rw [addL_nil]
  intro y hy
  rw [List.mem_singleton.1 hy]
  exact ⟨hn, c0, c1⟩
 ·rw [List.concat_eq_append] at h ⊢
  have hx := h x (by simp)
  rw [addL_snoc]
  by_cases hc : x.2 = c
  ·rw [if_pos hc]
   intro y hy
   rcases List.mem_append.1 hy with hy | hy
   ·exact h y (by simp [hy])
   ·rw [List.mem_singleton.1 hy]
    refine ⟨?_, c0, c1⟩
    show 1 ≤ x.1 + n
    omega
  ·rw [if_neg hc]
   intro y hy
   rcases List.mem_append.1 hy with hy | hy
   ·exact h y hy
   ·rw [List.mem_singleton.1 hy]
    exact ⟨hn, c0, c1⟩
theorem inE_zero {m : List Ly} {n c : Int} (h : inE m n c = 0) : 1 ≤ n ∧ n ≤ 1099511627776 ∧ 0 ≤ c ∧ c ≤ 1048576 ∧ hasY m + n ≤ 1099511627776 := by
 unfold inE at h
 split at h
 ·assumption
 ·cases h
theorem inE_cases (m : List Ly) (n c : Int) : inE m n c = 0 ∨ inE m n c = 2 := by unfold inE; split <;> simp
theorem LyOk.nil : LyOk [] := ⟨fun x hx => (by cases hx), by rw [hasY_nil]; decide⟩
theorem LyOk.in_ {m : List Ly} (h : LyOk m) (n c : Int) : LyOk (inL m n c) := by
 unfold inL
 split
 ·rename_i h0
  obtain ⟨h1, h2, h3, h4, h5⟩ := inE_zero h0
  exact ⟨addL_pos h.pos h1 h3 h4, by rw [(addL_has m n c).1]; exact h5⟩
 ·exact h
theorem inL_len (m : List Ly) (n c : Int) : (inL m n c).length ≤ m.length + 1 := by
 unfold inL
 split
 ·exact (addL_has m n c).2.2
 ·omega
def outE (m : List Ly) (n : Int) : Nat := if 1 ≤ n ∧ n ≤ 1099511627776 then (if n ≤ hasY m then 0 else 9) else 2
def outS : List Ly → Int → Int
 | [], _ => 0
 | x :: m, n => min n x.1 * x.2 + outS m (n - min n x.1)
def restY : List Ly → Int → List Ly
 | [], _ => []
 | x :: m, n => if x.1 ≤ n then restY m (n - x.1) else (x.1 - n, x.2) :: m
def outN (m : List Ly) (n : Int) : Int := if outE m n = 0 then outS m n else 0
def outL (m : List Ly) (n : Int) : List Ly := if outE m n = 0 then restY m n else m
theorem outE_zero {m : List Ly} {n : Int} (h : outE m n = 0) : 1 ≤ n ∧ n ≤ 1099511627776 ∧ n ≤ hasY m := by
 unfold outE at h
 split at h
 ·split at h
  ·omega
  ·cases h
 ·cases h
theorem outE_of {m : List Ly} {n : Int} (h1 : 1 ≤ n) (h2 : n ≤ 1099511627776) (h3 : n ≤ hasY m) : outE m n = 0 := by
 unfold outE
 rw [if_pos ⟨h1, h2⟩, if_pos h3]
theorem outE_le (m : List Ly) (n : Int) : outE m n ≤ 12 := by unfold outE; split <;> (try split) <;> decide
theorem outS_zero : ∀ {m : List Ly}, PosY m → outS m 0 = 0
 | [], _ => rfl
 | x :: m, h => by
  have := h.head
  show min 0 x.1 * x.2 + outS m (0 - min 0 x.1) = 0
  rw [show min (0 : Int) x.1 = 0 by omega, Int.zero_mul, show (0 : Int) - 0 = 0 by omega, outS_zero h.tail]; rfl
theorem restY_zero : ∀ {m : List Ly}, PosY m → restY m 0 = m
 | [], _ => rfl
 | x :: m, h => by
  have := h.head
  show (if x.1 ≤ 0 then _ else _) = _
  rw [if_neg (by omega), show x.1 - 0 = x.1 by omega]
theorem restY_pos : ∀ {m : List Ly} {n : Int}, PosY m → 0 ≤ n → PosY (restY m n)
 | [], _, h, _ => h
 | x :: m, n, h, hn => by
  show PosY (if x.1 ≤ n then _ else _)
  by_cases h1 : x.1 ≤ n
  ·rw [if_pos h1]
   exact restY_pos h.tail (by omega)
  ·rw [if_neg h1]
   intro y hy
   rcases List.mem_cons.1 hy with rfl | hy
   ·exact ⟨by show 1 ≤ x.1 - n; omega, h.head.2⟩
   ·exact h.tail y hy
theorem restY_has : ∀ {m : List Ly} {n : Int}, PosY m → 0 ≤ n → n ≤ hasY m → hasY (restY m n) = hasY m - n
 | [], n, _, h0, h => by rw [hasY_nil] at h; show (0 : Int) = 0 - n; omega
 | x :: m, n, h, h0, hn => by
  rw [hasY_cons] at hn ⊢
  show hasY (if x.1 ≤ n then _ else _) = _
  by_cases h1 : x.1 ≤ n
  ·rw [if_pos h1, restY_has h.tail (by omega) (by omega)]; omega
  ·rw [if_neg h1, hasY_cons]
   show x.1 - n + _ = _
   omega
theorem restY_len : ∀ (m : List Ly) (n : Int), (restY m n).length ≤ m.length
 | [], _ => Nat.le_refl _
 | x :: m, n => by
  show (if x.1 ≤ n then _ else _ : List Ly).length ≤ _
  have := restY_len m (n - x.1)
  split
  ·rw [List.length_cons]; omega
  ·simp
theorem out_worth : ∀ {m : List Ly} {n : Int}, PosY m → 0 ≤ n → outS m n + worthY (restY m n) = worthY m
 | [], _, _, _ => rfl
 | x :: m, n, h, h0 => by
  show min n x.1 * x.2 + outS m (n - min n x.1) + worthY (if x.1 ≤ n then _ else _) = _
  rw [worthY_cons]
  by_cases h1 : x.1 ≤ n
  ·rw [if_pos h1, show min n x.1 = x.1 by omega]
   have := out_worth (n := n - x.1) h.tail (by omega)
   omega
  ·rw [if_neg h1, show min n x.1 = n by omega, show n - n = 0 by omega, outS_zero h.tail, worthY_cons]
   show n * x.2 + 0 + ((x.1 - n) * x.2 + worthY m) = _
   rw [Int.sub_mul]
   omega
theorem outS_bound {m : List Ly} {n : Int} (h : PosY m) (h0 : 0 ≤ n) : 0 ≤ outS m n ∧ outS m n ≤ worthY m := by
 have h1 := out_worth h h0
 have h2 := (worthY_bound (restY_pos h h0)).1
 refine ⟨?_, by omega⟩
 clear h1 h2
 induction m generalizing n with
 | nil => exact Int.le_refl _
 | cons x m ih =>
  have h3 := h.head
  have h4 := ih (n := n - min n x.1) h.tail (by omega)
  have h5 := (cost_bound (n := min n x.1) (by omega) h3.2.1 h3.2.2).1
  show 0 ≤ min n x.1 * x.2 + outS m (n - min n x.1)
  omega
theorem LyOk.out {m : List Ly} (h : LyOk m) (n : Int) : LyOk (outL m n) := by
 unfold outL
 split
 ·rename_i h0
  obtain ⟨h1, h2, h3⟩ := outE_zero h0
  exact ⟨restY_pos h.pos (by omega), by rw [restY_has h.pos (by omega) h3]; have := h.most; omega⟩
 ·exact h
theorem outL_len (m : List Ly) (n : Int) : (outL m n).length ≤ m.length := by
 unfold outL
 split
 ·exact restY_len m n
 ·omega
def lessL (x : Ly) (m : List Ly) (p : Int) : List Ly := if x.1 ≤ p then m else (x.1 - p, x.2) :: m
theorem out_step {x : Ly} {m : List Ly} {r p : Int} (hp : PosY (x :: m)) (e : min r x.1 = p) : outS (x :: m) r = p * x.2 + outS (lessL x m p) (r - p) ∧ restY (x :: m) r = restY (lessL x m p) (r - p) ∧ PosY (lessL x m p) ∧ hasY (lessL x m p) = hasY (x :: m) - p := by
 have h1 := hp.head
 subst e
 show min r x.1 * x.2 + outS m (r - min r x.1) = _ ∧ (if x.1 ≤ r then restY m (r - x.1) else (x.1 - r, x.2) :: m) = _ ∧ _
 unfold lessL
 by_cases hx : x.1 ≤ r
 ·have e : min r x.1 = x.1 := by omega
  rw [e, if_pos (Int.le_refl _), if_pos hx, hasY_cons]
  exact ⟨rfl, rfl, hp.tail, by omega⟩
 ·have e : min r x.1 = r := by omega
  rw [e, if_neg hx, if_neg hx, hasY_cons, hasY_cons, show r - r = 0 by omega, outS_zero hp.tail]
  have hp2 : PosY ((x.1 - r, x.2) :: m) := fun y hy => by
   rcases List.mem_cons.1 hy with rfl | hy
   ·exact ⟨by show 1 ≤ x.1 - r; omega, h1.2⟩
   ·exact hp.tail y hy
  rw [outS_zero hp2, restY_zero hp2]
  exact ⟨rfl, rfl, hp2, by show x.1 - r + _ = _; omega⟩
def wordY (x : Ly) : List UInt8 := decDigits x.1.toNat ++ 64 :: decDigits x.2.toNat
def textY : List Ly → List UInt8
 | [] => []
 | [x] => wordY x
 | x :: y :: m => wordY x ++ 32 :: textY (y :: m)
theorem textY_snoc : ∀ (m : List Ly) (x : Ly), textY (m ++ [x]) = if m = [] then wordY x else textY m ++ 32 :: wordY x
 | [], _ => rfl
 | [y], x => by simp [textY]
 | y :: z :: m, x => by
  have ih := textY_snoc (z :: m) x
  rw [if_neg (by simp)] at ih ⊢
  show wordY y ++ 32 :: textY (z :: m ++ [x]) = wordY y ++ 32 :: textY (z :: m) ++ 32 :: wordY x
  rw [ih]
  simp
theorem dec_len {n : Int} (k : Nat) (hk : 1 ≤ k) (h : n.toNat < 10 ^ k) : (decDigits n.toNat).length ≤ k := by rw [decDigits_length]; exact nDigits_le k _ hk h
theorem wordY_len {m : List Ly} (h : LyOk m) {x : Ly} (hx : x ∈ m) : (wordY x).length ≤ 21 := by
 obtain ⟨p1, p2, p3⟩ := h.pos x hx
 have hm : x.1 ≤ hasY m := by
  obtain ⟨s, t, rfl⟩ := List.append_of_mem hx
  have h1 : PosY s := fun y hy => h.pos y (by simp [hy])
  have h2 : PosY t := fun y hy => h.pos y (by simp [hy])
  have := hasY_nonneg h1
  have := hasY_nonneg h2
  rw [hasY_app, hasY_cons]
  omega
 have := h.most
 have h1 := dec_len (n := x.1) 13 (by decide) (by omega)
 have h2 := dec_len (n := x.2) 7 (by decide) (by omega)
 unfold wordY
 rw [List.length_append, List.length_cons]
 omega
theorem textY_len : ∀ (m : List Ly), (∀ x ∈ m, (wordY x).length ≤ 21) → (textY m).length ≤ 22 * m.length
 | [], _ => Nat.le_refl _
 | [x], h => by have := h x (by simp); show (wordY x).length ≤ _; simp; omega
 | x :: y :: m, h => by
  have h1 := h x (by simp)
  have h2 := textY_len (y :: m) fun z hz => h z (List.mem_cons_of_mem _ hz)
  show (wordY x ++ 32 :: textY (y :: m)).length ≤ _
  rw [List.length_append, List.length_cons, List.length_cons]
  omega
end Go.Proofs.YtpnmbomjnpheeaaGreatDoor
namespace Go.Proofs.YtpnmbomjnpheeaaGreatDoor
open Go.RowKit Go.Lib
structure Off (x : List Nat) (w w' : World) : Prop where
 os : w'.os = w.os
 tape : w'.tape = w.tape
 output : w'.output = w.output
 size : w.heap.size ≤ w'.heap.size
 block : ∀ k, k < w.heap.size → k ∉ x → w'.heap[k]? = w.heap[k]?
theorem Off.refl (x : List Nat) (w : World) : Off x w w := ⟨rfl, rfl, rfl, Nat.le_refl _, fun _ _ _ => rfl⟩
theorem Off.of_below {x : List Nat} {w w' : World} (h : Below w.heap.size w w') : Off x w w' := ⟨h.os, h.tape, h.output, h.size, fun k hk _ => h.block k hk⟩
theorem Off.trans {x : List Nat} {w w' w'' : World} (h : Off x w w') (h' : Off x w' w'') : Off x w w'' :=
 ⟨h'.os.trans h.os, h'.tape.trans h.tape, h'.output.trans h.output, Nat.le_trans h.size h'.size, fun k hk hx => (h'.block k (Nat.lt_of_lt_of_le hk h.size) hx).trans (h.block k hk hx)⟩
theorem Off.mono {x y : List Nat} {w w' : World} (h : Off x w w') (hxy : ∀ k ∈ x, k ∈ y) : Off y w w' := ⟨h.os, h.tape, h.output, h.size, fun k hk hy => h.block k hk fun e => hy (hxy k e)⟩
theorem Off.below {x : List Nat} {w w' : World} {B : Nat} (h : Off x w w') (hB : B ≤ w.heap.size) (hx : ∀ k ∈ x, B ≤ k) : Below B w w' := ⟨h.os, h.tape, h.output, h.size, fun k hk => h.block k (Nat.lt_of_lt_of_le hk hB) fun e => by have := hx k e; omega⟩
theorem Off.set {x : List Nat} {w w' : World} (h : Off x w w') {p o : Nat} (hp : p ∈ x) (v : Value) : Off x w (w'.setCell ⟨p, o, none⟩ v) := by
 refine h.trans ⟨rfl, rfl, rfl, by rw [World.size_setCell]; exact Nat.le_refl _, fun k hk hx => Below.heap_setCell w' ⟨p, o, none⟩ v k (fun e => hx (e ▸ hp))⟩
end Go.Proofs.YtpnmbomjnpheeaaGreatDoor
