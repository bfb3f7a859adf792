/-
 What the reference's Byte, below, Decimal, NumberOf and IsName answer, and the program's goods.Name, over whatever world.
-/
import Derived.Test.YtefkchmahcjleaaGreatDoorJz1
import Derived.Sort.LotA
import Derived.Lib.Small
import Derived.OwnWalk
import Derived.Deep.AppendLies
import Derived.WalkKit
import Derived.Test.YtefkchmahcjleaaGreatDoorRows
import Derived.LaidLaws
import Derived.LaidHandle
import Derived.Stop.LaidErr
set_option maxRecDepth 100000
set_option maxHeartbeats 16000000
namespace Go.Proofs.YtefkchmahcjleaaGreatDoor
open Go.RowKit Go.Lib Go.Sort
def nameB (c : UInt8) : Bool := (decide (97 ≤ c.toNat) && decide (c.toNat ≤ 122)) || (decide (48 ≤ c.toNat) && decide (c.toNat ≤ 57))
def isName (l : List UInt8) : Bool := l.all nameB && (decide (1 ≤ l.length) && decide (l.length ≤ 8))
theorem name_false_of (s : ByteArray) (k : Nat) (h : k < s.size) (hd : nameB s[k] = false) : s.data.toList.all nameB = false := by
 rw [List.all_eq_false]
 refine ⟨s[k], ?_, by rw [hd]; decide⟩
 have := List.getElem_mem (l := s.data.toList) (n := k) (by rw [size_len]; exact h)
 exact this
theorem name_bad (s : ByteArray) (k : Nat) (w : World) (h : k < s.size) (hd : nameB s[k] = false) : Ending.returned (.bool false) = Ending.returned (.bool (isName s.data.toList)) ∧ w = w := by
 unfold isName
 rw [name_false_of s k h hd]; exact ⟨rfl, rfl⟩
theorem name_good (s : ByteArray) (k : Nat) (w : World) (h : s.size ≤ k) (ha : (s.data.toList.take k).all nameB = true) : Ending.returned (.bool (decide (1 ≤ s.size) && decide (s.size ≤ 8))) = Ending.returned (.bool (isName s.data.toList)) ∧ w = w := by
 rw [List.take_of_length_le (by rw [size_len]; exact h)] at ha
 unfold isName
 rw [ha, size_len]; exact ⟨rfl, rfl⟩
theorem nameByte_any (c : Int) (w : World) (h0 : 0 ≤ c) (h1 : c ≤ 255) :
  Calls Tryz.prog 161 #[.int .u8 c] w fun e w' => e = .returned (.bool ((decide (97 ≤ c) && decide (c ≤ 122)) || (decide (48 ≤ c) && decide (c ≤ 57)))) ∧ w' = w := by
 by_cases a : 97 ≤ c
 ·by_cases b : c ≤ 122
  ·go_enter Tryz.func161, Tryz.ntmps161
   go_wp2
   go_ret
   exact ⟨by simp [a, b], rfl⟩
  ·go_enter Tryz.func161, Tryz.ntmps161
   go_wp2
   go_ret
   exact ⟨by simp <;> omega, rfl⟩
 ·by_cases b : 48 ≤ c
  ·by_cases d : c ≤ 57
   ·go_enter Tryz.func161, Tryz.ntmps161
    go_wp2
    go_ret
    exact ⟨by simp <;> omega, rfl⟩
   ·go_enter Tryz.func161, Tryz.ntmps161
    go_wp2
    go_ret
    exact ⟨by simp <;> omega, rfl⟩
  ·go_enter Tryz.func161, Tryz.ntmps161
   go_wp2
   go_ret
   exact ⟨by simp <;> omega, rfl⟩
theorem nameByte_yes (c : Int) (w : World) (h0 : 0 ≤ c) (h1 : c ≤ 255) (h : (97 ≤ c ∧ c ≤ 122) ∨ (48 ≤ c ∧ c ≤ 57)) :
  Calls Tryz.prog 161 #[.int .u8 c] w fun e w' => e = .returned (.bool true) ∧ w' = w := by
 refine (nameByte_any c w h0 h1).mono ?_
 rintro e w' ⟨rfl, rfl⟩
 exact ⟨by simp <;> omega, rfl⟩
theorem nameByte_no (c : Int) (w : World) (h0 : 0 ≤ c) (h1 : c ≤ 255) (h : ¬ ((97 ≤ c ∧ c ≤ 122) ∨ (48 ≤ c ∧ c ≤ 57))) :
  Calls Tryz.prog 161 #[.int .u8 c] w fun e w' => e = .returned (.bool false) ∧ w' = w := by
 refine (nameByte_any c w h0 h1).mono ?_
 rintro e w' ⟨rfl, rfl⟩
 exact ⟨by simp <;> omega, rfl⟩
theorem name_any (s : ByteArray) (w : World) (hz : s.size ≤ maxLen) :
  Calls Tryz.prog 131 #[.string s] w fun e w' => e = .returned (.bool (isName s.data.toList)) ∧ w' = w := by
 unfold maxLen at hz
 by_cases h0 : 1 ≤ s.size
 ·have he := isEmpty_of s h0
  have he' : ¬ s.toList = [] := by rw [← List.isEmpty_iff, he]; decide
  by_cases h1 : s.size ≤ 8
  ·go_enter Tryz.func131, Tryz.ntmps131
   go_wp2
   go_loop [13] (fun i => ∃ k : Nat, k ≤ s.size ∧ i = .int .i64 k ∧ (s.data.toList.take k).all nameB = true) (fun i => s.size - (RowKit.intOf i).toNat)
   case atStart => exact ⟨0, Nat.zero_le _, rfl, rfl⟩
   case round =>
    obtain ⟨k, hk, rfl, hall⟩ := hrel
    by_cases hlt : k < s.size
    ·have HS : Hid (s.data.toList.take (k + 1) = s.data.toList.take k ++ [s[k]]) := take_snoc s k hlt
     have HA : Hid ((s.data.toList.take k).all nameB = true) := hall
     clear hall
     have hb : 0 ≤ (s[k].toNat : Int) ∧ (s[k].toNat : Int) ≤ 255 := by have := s[k].toNat_lt; omega
     by_cases hc : (97 ≤ (s[k].toNat : Int) ∧ (s[k].toNat : Int) ≤ 122) ∨ (48 ≤ (s[k].toNat : Int) ∧ (s[k].toNat : Int) ≤ 57)
     ·have hy := nameByte_yes s[k].toNat w hb.1 hb.2 hc
      have HC : Hid (nameB s[k] = true) := by show _ = _; unfold nameB; simp; omega
      clear hc
      go_wp2_with (go_at_call 161; refine hy.mono ?_; rintro e w1 ⟨rfl, rfl⟩)
      go_round
      case rel => exact ⟨k + 1, by omega, by go_num, by rw [HS.out, List.all_append, HA.out]; simp [HC.out]⟩
      case measure => simp [RowKit.intOf]; omega
     ·have hy := nameByte_no s[k].toNat w hb.1 hb.2 hc
      have HC : Hid (nameB s[k] = false) := by show _ = _; unfold nameB; simp; omega
      clear hc
      go_wp2_with (go_at_call 161; refine hy.mono ?_; rintro e w1 ⟨rfl, rfl⟩)
      go_ret
      exact name_bad s k _ hlt HC.out
    ·go_wp2
     go_ret
     have := name_good s k w (by omega) hall
     rw [decide_eq_true h0, decide_eq_true h1] at this
     exact this
  ·go_enter Tryz.func131, Tryz.ntmps131
   go_wp2
   go_ret
   refine ⟨?_, rfl⟩
   unfold isName
   rw [size_len, decide_eq_false h1]; simp
 ·have hs : s.data.toList = [] := List.eq_nil_of_length_eq_zero (by rw [size_len]; omega)
  have he : s = ByteArray.empty := isEmpty_nil hs
  clear hs
  subst he
  go_enter Tryz.func131, Tryz.ntmps131
  go_wp2
  go_ret
  exact ⟨rfl, rfl⟩
theorem isName_any (s : ByteArray) (w : World) (hz : s.size ≤ maxLen) :
  Calls Tryz.prog 97 #[.string s] w fun e w' => e = .returned (.bool (isName s.data.toList)) ∧ w' = w := by
 unfold maxLen at hz
 go_enter Tryz.func97, Tryz.ntmps97
 go_wp2
 go_loop [3] (fun i => ∃ k : Nat, k ≤ s.size ∧ i = .int .i64 k ∧ (s.data.toList.take k).all nameB = true) (fun i => s.size - (RowKit.intOf i).toNat)
 case atStart => exact ⟨0, Nat.zero_le _, rfl, rfl⟩
 case round =>
  obtain ⟨k, hk, rfl, hall⟩ := hrel
  by_cases hlt : k < s.size
  ·have HS : Hid (s.data.toList.take (k + 1) = s.data.toList.take k ++ [s[k]]) := take_snoc s k hlt
   have HA : Hid ((s.data.toList.take k).all nameB = true) := hall
   clear hall
   have hb : 0 ≤ (s[k].toNat : Int) ∧ (s[k].toNat : Int) ≤ 255 := by have := s[k].toNat_lt; omega
   have hcases : (s[k].toNat : Int) < 48 ∨ (48 ≤ (s[k].toNat : Int) ∧ (s[k].toNat : Int) ≤ 57) ∨ (57 < (s[k].toNat : Int) ∧ (s[k].toNat : Int) < 97) ∨ (97 ≤ (s[k].toNat : Int) ∧ (s[k].toNat : Int) ≤ 122) ∨ 122 < (s[k].toNat : Int) := by omega
   rcases hcases with hc | hc | hc | hc | hc
   ·have HC : Hid (nameB s[k] = false) := by show _ = _; unfold nameB; simp; omega
    go_wp2
    go_ret
    exact name_bad s k _ hlt HC.out
   ·have HC : Hid (nameB s[k] = true) := by show _ = _; unfold nameB; simp; omega
    obtain ⟨c1, c2⟩ := hc
    go_wp2
    go_round
    case rel => exact ⟨k + 1, by omega, by go_num, by rw [HS.out, List.all_append, HA.out]; simp [HC.out]⟩
    case measure => simp [RowKit.intOf]; omega
   ·have HC : Hid (nameB s[k] = false) := by show _ = _; unfold nameB; simp; omega
    obtain ⟨c1, c2⟩ := hc
    have b1 : decide ((s[k].toNat : Int) ≤ 57) = false := decide_eq_false (by omega)
    go_wp2
    go_ret
    exact name_bad s k _ hlt HC.out
   ·have HC : Hid (nameB s[k] = true) := by show _ = _; unfold nameB; simp; omega
    obtain ⟨c1, c2⟩ := hc
    go_wp2
    go_round
    case rel => exact ⟨k + 1, by omega, by go_num, by rw [HS.out, List.all_append, HA.out]; simp [HC.out]⟩
    case measure => simp [RowKit.intOf]; omega
   ·have HC : Hid (nameB s[k] = false) := by show _ = _; unfold nameB; simp; omega
    have b1 : decide ((s[k].toNat : Int) ≤ 57) = false := decide_eq_false (by omega)
    have b2 : decide ((s[k].toNat : Int) ≤ 122) = false := decide_eq_false (by omega)
    go_wp2
    go_ret
    exact name_bad s k _ hlt HC.out
  ·have HA : Hid ((s.data.toList.take k).all nameB = true) := hall
   clear hall
   by_cases h1 : 1 ≤ s.size
   ·go_wp2
    go_ret
    have := name_good s k w (by omega) HA.out
    rw [decide_eq_true h1] at this
    have e2 : decide ((s.size : Int) ≤ 8) = decide (s.size ≤ 8) := decide_eq_decide.2 (by omega)
    simpa [e2] using this
   ·go_wp2
    go_ret
    have := name_good s k w (by omega) HA.out
    rw [decide_eq_false h1] at this
    simpa using this
end Go.Proofs.YtefkchmahcjleaaGreatDoor
namespace Go.Proofs.YtefkchmahcjleaaGreatDoor
open Go.Lib Go.Sort
abbrev Pl := ByteArray × Int × Int
def zLt (a b : ByteArray) : Bool := decide (a.data.toList < b.data.toList)
def cmpZ (a b : ByteArray) : Int := if zLt a b then -1 else if zLt b a then 1 else 0
def or3 (a b c : Int) : Int := if a = 0 then (if b = 0 then c else b) else a
def bays (r a b : Int) : Int := if r.tmod 2 = 0 then compareInt b a else compareInt a b
def cmpP (x y : Pl) : Int := or3 (cmpZ x.1 y.1) (compareInt x.2.1 y.2.1) (bays x.2.1 x.2.2 y.2.2)
def aheadP (x y : Pl) : Bool := decide (cmpP x y < 0)
theorem zLt_irrefl (a : ByteArray) : zLt a a = false := by unfold zLt; simp [List.lt_irrefl]
theorem zLt_asymm {a b : ByteArray} (h : zLt a b = true) : zLt b a = false := by
 unfold zLt at *; simp only [decide_eq_true_eq, decide_eq_false_iff_not] at *
 exact fun h' => List.lt_irrefl _ (List.lt_trans h h')
theorem zLt_trans {a b c : ByteArray} (h : zLt a b = true) (h' : zLt b c = true) : zLt a c = true := by
 unfold zLt at *; simp only [decide_eq_true_eq] at *
 exact List.lt_trans h h'
theorem zLt_total {a b : ByteArray} (h : zLt a b = false) (h' : zLt b a = false) : a = b := by
 unfold zLt at *; simp only [decide_eq_false_iff_not, List.not_lt] at *
 have e := List.le_antisymm h' h
 cases a; cases b; simp at e; simp [e]
theorem cmpZ_self (a : ByteArray) : cmpZ a a = 0 := by unfold cmpZ; simp [zLt_irrefl]
theorem cmpZ_cases (a b : ByteArray) : (zLt a b = true ∧ zLt b a = false ∧ a ≠ b ∧ cmpZ a b = -1) ∨ (zLt a b = false ∧ zLt b a = true ∧ a ≠ b ∧ cmpZ a b = 1) ∨ (zLt a b = false ∧ zLt b a = false ∧ a = b ∧ cmpZ a b = 0) := by
 cases h1 : zLt a b with
 | true =>
  have h2 := zLt_asymm h1
  refine Or.inl ⟨rfl, h2, ?_, by unfold cmpZ; simp [h1]⟩
  rintro rfl; rw [zLt_irrefl] at h1; cases h1
 | false =>
  cases h2 : zLt b a with
  | true =>
   refine Or.inr (Or.inl ⟨rfl, rfl, ?_, by unfold cmpZ; simp [h1, h2]⟩)
   rintro rfl; rw [zLt_irrefl] at h2; cases h2
  | false => exact Or.inr (Or.inr ⟨rfl, rfl, zLt_total h1 h2, by unfold cmpZ; simp [h1, h2]⟩)
theorem cmpI_cases (a b : Int) : (a < b ∧ compareInt a b = -1) ∨ (b < a ∧ compareInt a b = 1) ∨ (a = b ∧ compareInt a b = 0) := by
 unfold compareInt
 rcases Int.lt_trichotomy a b with h | h | h
 ·exact Or.inl ⟨h, by rw [if_pos h]⟩
 ·exact Or.inr (Or.inr ⟨h, by subst h; simp⟩)
 ·exact Or.inr (Or.inl ⟨h, by rw [if_neg (by omega), if_pos h]⟩)
def aheadW (x y : Pl) : Prop := zLt x.1 y.1 = true ∨ (x.1 = y.1 ∧ (x.2.1 < y.2.1 ∨ (x.2.1 = y.2.1 ∧ ((x.2.1.tmod 2 = 0 ∧ y.2.2 < x.2.2) ∨ (x.2.1.tmod 2 ≠ 0 ∧ x.2.2 < y.2.2)))))
theorem aheadP_iff (x y : Pl) : aheadP x y = true ↔ aheadW x y := by
 obtain ⟨a, r, b⟩ := x
 obtain ⟨a', r', b'⟩ := y
 unfold aheadP aheadW cmpP or3 bays
 simp only [decide_eq_true_eq]
 rcases cmpZ_cases a a' with ⟨h1, h2, h3, h4⟩ | ⟨h1, h2, h3, h4⟩ | ⟨h1, h2, h3, h4⟩
 ·rw [h4, h1]; simp
 ·rw [h4, h1]; simp [h3]
 ·rw [h4, h1]
  subst h3
  rcases cmpI_cases r r' with ⟨k1, k2⟩ | ⟨k1, k2⟩ | ⟨k1, k2⟩
  ·rw [k2]; simp [k1]
  ·rw [k2]; simp; omega
  ·rw [k2]; subst k1
   by_cases hp : r.tmod 2 = 0
   ·rcases cmpI_cases b' b with ⟨m1, m2⟩ | ⟨m1, m2⟩ | ⟨m1, m2⟩ <;> simp [hp, m2] <;> omega
   ·rcases cmpI_cases b b' with ⟨m1, m2⟩ | ⟨m1, m2⟩ | ⟨m1, m2⟩ <;> simp [hp, m2] <;> omega
theorem aheadW_irrefl (x : Pl) : ¬ aheadW x x := by
 unfold aheadW; rw [zLt_irrefl]; simp
theorem aheadW_trans {x y z : Pl} (h : aheadW x y) (h' : aheadW y z) : aheadW x z := by
 obtain ⟨a, r, b⟩ := x
 obtain ⟨a', r', b'⟩ := y
 obtain ⟨a'', r'', b''⟩ := z
 unfold aheadW at *
 simp only at *
 rcases h with h | ⟨rfl, h⟩
 ·rcases h' with h' | ⟨rfl, h'⟩
  ·exact Or.inl (zLt_trans h h')
  ·exact Or.inl h
 ·rcases h' with h' | ⟨rfl, h'⟩
  ·exact Or.inl h'
  ·refine Or.inr ⟨rfl, ?_⟩
   rcases h with h | ⟨rfl, h⟩
   ·rcases h' with h' | ⟨rfl, h'⟩
    ·exact Or.inl (by omega)
    ·exact Or.inl h
   ·rcases h' with h' | ⟨rfl, h'⟩
    ·exact Or.inl h'
    ·refine Or.inr ⟨rfl, ?_⟩
     rcases h with ⟨p, h⟩ | ⟨p, h⟩ <;> rcases h' with ⟨p', h'⟩ | ⟨p', h'⟩
     ·exact Or.inl ⟨p, by omega⟩
     ·exact absurd p p'
     ·exact absurd p' p
     ·exact Or.inr ⟨p, by omega⟩
theorem aheadW_total (x y : Pl) : aheadW x y ∨ aheadW y x ∨ x = y := by
 obtain ⟨a, r, b⟩ := x
 obtain ⟨a', r', b'⟩ := y
 unfold aheadW
 simp only
 rcases cmpZ_cases a a' with ⟨h1, h2, h3, h4⟩ | ⟨h1, h2, h3, h4⟩ | ⟨h1, h2, h3, h4⟩
 ·exact Or.inl (Or.inl h1)
 ·exact Or.inr (Or.inl (Or.inl h2))
 ·subst h3
  rcases Int.lt_trichotomy r r' with k | k | k
  ·exact Or.inl (Or.inr ⟨rfl, Or.inl k⟩)
  ·subst k
   by_cases hp : r.tmod 2 = 0
   ·rcases Int.lt_trichotomy b b' with m | m | m
    ·exact Or.inr (Or.inl (Or.inr ⟨rfl, Or.inr ⟨rfl, Or.inl ⟨hp, m⟩⟩⟩))
    ·subst m; exact Or.inr (Or.inr rfl)
    ·exact Or.inl (Or.inr ⟨rfl, Or.inr ⟨rfl, Or.inl ⟨hp, m⟩⟩⟩)
   ·rcases Int.lt_trichotomy b b' with m | m | m
    ·exact Or.inl (Or.inr ⟨rfl, Or.inr ⟨rfl, Or.inr ⟨hp, m⟩⟩⟩)
    ·subst m; exact Or.inr (Or.inr rfl)
    ·exact Or.inr (Or.inl (Or.inr ⟨rfl, Or.inr ⟨rfl, Or.inr ⟨hp, m⟩⟩⟩))
  ·exact Or.inr (Or.inl (Or.inr ⟨rfl, Or.inl k⟩))
def well (r b : Int) : Bool := decide (1 ≤ r) && decide (r ≤ 20) && (decide (1 ≤ b) && decide (b ≤ 40))
def placeErr (x : Pl) : Nat := if isName x.1.data.toList then (if well x.2.1 x.2.2 then 0 else 2) else 5
theorem placeErr_le (x : Pl) : placeErr x ≤ 12 := by
 unfold placeErr; split
 ·split <;> decide
 ·decide
def okP (x : Pl) : Bool := isName x.1.data.toList && well x.2.1 x.2.2
theorem okP_err (x : Pl) : okP x = true ↔ placeErr x = 0 := by
 unfold okP placeErr
 cases isName x.1.data.toList <;> cases well x.2.1 x.2.2 <;> simp
theorem okP_bounds {x : Pl} (h : okP x = true) : isName x.1.data.toList = true ∧ 1 ≤ x.2.1 ∧ x.2.1 ≤ 20 ∧ 1 ≤ x.2.2 ∧ x.2.2 ≤ 40 := by
 unfold okP well at h
 simp at h
 exact ⟨h.1, h.2.1.1, h.2.1.2, h.2.2.1, h.2.2.2⟩
end Go.Proofs.YtefkchmahcjleaaGreatDoor
namespace Go.Proofs.YtefkchmahcjleaaGreatDoor
open Go.RowKit Go.Lib Go.Sort
def stp (c : UInt8) (st : List (List UInt8) × List UInt8) (b : UInt8) : List (List UInt8) × List UInt8 := if b = c then (st.1 ++ [st.2], []) else (st.1, st.2 ++ [b])
def sp (c : UInt8) (l : List UInt8) : List (List UInt8) × List UInt8 := l.foldl (stp c) ([], [])
end Go.Proofs.YtefkchmahcjleaaGreatDoor
namespace Go.Proofs.YtefkchmahcjleaaGreatDoor
open Go.RowKit Go.Lib
end Go.Proofs.YtefkchmahcjleaaGreatDoor
namespace Go.Proofs.YtefkchmahcjleaaGreatDoor
open Go.ChangeShapes Go.WideShapes Go.RowKit
theorem Tryz.own : ownKnob Tryz.prog.godebug = none := by kernel_rfl
theorem Tryz.cellsE : Tryz.prog.cellsOf 282 = 1 := by kernel_rfl
theorem Tryz.cellsS : Tryz.prog.cellsOf 9 = 1 := by kernel_rfl
theorem Tryz.star : "*" ++ "errors.errorString" = "*errors.errorString" := by decide
theorem Tryz.rowE (u : TypeId) (h : Tryz.prog.typeName? 3 u = some "*errors.errorString") : u = 264 :=
 typeName_ptr_named (nm := "errors.errorString") (by rw [Tryz.star]; kernel_rfl) (by kernel_rfl) (by decide) u (by rw [Tryz.star]; exact h)
abbrev errD (text : List UInt8) : DataW Unit := .iface "*errors.errorString" (.ptr (.agg [.lit (.string text)]))
def SentRow (W : World) (g : Nat) (a : Addr) : Prop := W.cell? ⟨g, 0, none⟩ = some (err a) ∧ ∃ c t, W.heap[a.block]? = some (.cells c t (0, 0))
theorem sents_of_laid {W : World} : ∀ (l : List (Nat × String × List UInt8)) (ps : List MemPlace), (∀ x ∈ l, Tryz.prog.globalNamed x.2.1 = some x.1 ∧ (Tryz.prog.globals[x.1]?).map (·.type) = some 32) →
  DataW.LaidVars Tryz.prog W (l.map fun x => (x.2.1, errD x.2.2)) ps → ps.Nodup →
  (∀ b off, MemPlace.cell b off ∈ ps → (∃ c t, W.heap[b]? = some (.cells c t (0, 0))) ∧ ∀ u v, W.cell? ⟨b, off, none⟩ = some (.iface u v) → Value.okWide Tryz.prog W .any 0 u v) →
  ∃ al : List Addr, al.length = l.length ∧ (∀ a ∈ al, MemPlace.cell a.block a.off ∈ ps) ∧ al.Nodup ∧ ∀ i, i < l.length → SentRow W (l.getD i (0, default, [])).1 (al.getD i ⟨0, 0, none⟩)
 | [], _, _, _, _, _ => ⟨[], rfl, (fun a h => by cases h), List.nodup_nil, fun i h => absurd h (Nat.not_lt_zero _)⟩
 | x :: l, ps, hx, hl, hnd, hrows => by
  obtain ⟨g, t, cs, fuel, p, q, hg, ht, hv, hd, hq, rfl⟩ := hl
  obtain ⟨hg', ht'⟩ := hx x (List.mem_cons_self ..)
  obtain rfl := Option.some.inj (hg'.symm.trans hg)
  obtain rfl := Option.some.inj (ht'.symm.trans ht)
  obtain ⟨cl⟩ := cs
  have ok : ∀ u v, cl = [.iface u v] → Value.okWide Tryz.prog W .any 0 u v := fun u v e => by
   subst e
   exact (hrows x.1 0 (by simp [MemPlace.row])).2 u v (by simpa using World.var?_cell hg hv 0)
  obtain ⟨a, s0, rfl, hc0, hs0, hz0, rfl⟩ := errorString_of_trod Tryz.underlying32 Tryz.rowE Tryz.underlying264 Tryz.underlying282 rfl rfl Tryz.underlying9 Tryz.cellsE Tryz.cellsS hd ok
  obtain ⟨al, hlen, hmem, hasnd, hrow⟩ := sents_of_laid l q (fun y hy => hx y (List.mem_cons_of_mem _ hy)) hq (List.Nodup.sublist (List.sublist_append_right _ _) hnd) (fun b off hm => hrows b off (List.mem_append_right _ hm))
  have hain : MemPlace.cell a.block a.off ∈ MemPlace.row ⟨x.1, 0, none⟩ (⟨[Value.iface 264 (Value.pointer (some a))]⟩ : Array Value).size ++ MemPlace.row a 1 := List.mem_append_right _ (by simp [MemPlace.row])
  refine ⟨a :: al, by simp [hlen], ?_, ?_, ?_⟩
  ·intro b hb
   rcases List.mem_cons.1 hb with rfl | hb
   ·exact List.mem_append_left _ hain
   ·exact List.mem_append_right _ (hmem b hb)
  ·refine List.nodup_cons.2 ⟨fun hin => ?_, hasnd⟩
   exact (List.nodup_append.1 hnd).2.2 _ hain _ (hmem a hin) rfl
  ·intro i hi
   rcases i with _ | i
   ·exact ⟨by simpa using World.var?_cell hg hv 0, (hrows a.block a.off (List.mem_append_left _ hain)).1⟩
   ·simpa using hrow i (by simpa using hi)
def sentList : List (Nat × String × List UInt8) := [
 (6, "tithebarn/api.ErrText", [116, 105, 116, 104, 101, 98, 97, 114, 110, 58, 32, 116, 101, 120, 116]),
 (1, "tithebarn/api.ErrBound", [116, 105, 116, 104, 101, 98, 97, 114, 110, 58, 32, 98, 111, 117, 110, 100]),
 (0, "tithebarn/api.ErrShape", [116, 105, 116, 104, 101, 98, 97, 114, 110, 58, 32, 115, 104, 97, 112, 101]),
 (7, "tithebarn/api.ErrKind", [116, 105, 116, 104, 101, 98, 97, 114, 110, 58, 32, 107, 105, 110, 100]),
 (8, "tithebarn/api.ErrName", [116, 105, 116, 104, 101, 98, 97, 114, 110, 58, 32, 110, 97, 109, 101]),
 (2, "tithebarn/api.ErrNone", [116, 105, 116, 104, 101, 98, 97, 114, 110, 58, 32, 110, 111, 110, 101]),
 (4, "tithebarn/api.ErrExist", [116, 105, 116, 104, 101, 98, 97, 114, 110, 58, 32, 101, 120, 105, 115, 116]),
 (5, "tithebarn/api.ErrFull", [116, 105, 116, 104, 101, 98, 97, 114, 110, 58, 32, 102, 117, 108, 108]),
 (3, "tithebarn/api.ErrShort", [116, 105, 116, 104, 101, 98, 97, 114, 110, 58, 32, 115, 104, 111, 114, 116]),
 (9, "tithebarn/api.ErrOrder", [116, 105, 116, 104, 101, 98, 97, 114, 110, 58, 32, 111, 114, 100, 101, 114]),
 (10, "tithebarn/api.ErrState", [116, 105, 116, 104, 101, 98, 97, 114, 110, 58, 32, 115, 116, 97, 116, 101]),
 (11, "tithebarn/api.ErrOff", [116, 105, 116, 104, 101, 98, 97, 114, 110, 58, 32, 111, 102, 102])]
theorem sentList_ok : (sentList.all fun x => decide (Tryz.prog.globalNamed x.2.1 = some x.1) && decide ((Tryz.prog.globals[x.1]?).map (·.type) = some 32)) = true := by kernel_rfl
theorem sent_of_laid {W : World} (h : laidMet Tryz.prog (sentList.map fun x => (x.2.1, errD x.2.2)) W) : ∃ s, Sent W s := by
 obtain ⟨ps, hl, hnd, hrows⟩ := h
 obtain ⟨al, hlen, _, hasnd, hrow⟩ := sents_of_laid sentList ps (fun x hx => by
  have := List.all_eq_true.1 sentList_ok x hx
  simpa using this) hl hnd hrows
 have h12 : al.length = 12 := hlen
 refine ⟨fun i => al.getD i ⟨0, 0, none⟩, ?_, fun i hi => (hrow i hi).2, ?_⟩
 ·intro i hi
  have hr := (hrow i hi).1
  rcases i with _ | _ | _ | _ | _ | _ | _ | _ | _ | _ | _ | _ | i
  all_goals first | exact hr | omega
 ·intro i j hi hj he
  have e1 : al.getD i ⟨0, 0, none⟩ = al[i] := by rw [List.getD_eq_getElem?_getD, List.getElem?_eq_getElem (by omega)]; rfl
  have e2 : al.getD j ⟨0, 0, none⟩ = al[j] := by rw [List.getD_eq_getElem?_getD, List.getElem?_eq_getElem (by omega)]; rfl
  simp only [e1, e2] at he
  exact (List.getElem_inj hasnd).1 he
theorem Tryz.etG : Tryz.prog.globalNamed "errors.errorType" = some 12 := by kernel_rfl
theorem Tryz.etR : (Tryz.prog.cutTypes.find? (·.1 == "internal/reflectlite.rtype")).map (·.2) = some 225 := by kernel_rfl
theorem Tryz.etOne : ((List.range 294).filter fun t => Tryz.prog.rowNamed t [101, 114, 114, 111, 114]) = [32] := by kernel_rfl
theorem Tryz.etSize : Tryz.prog.types.size = 294 := by kernel_rfl
theorem handle_of_laid {W : World} (h : handlesMet Tryz.prog [("errors.errorType", Rows.laid_errors_errorType)] W) : Handle W := by
 obtain ⟨name, u, ty, e1, e2, e3, e4, e5⟩ := h _ (List.mem_singleton.2 rfl)
 have en : name = [101, 114, 114, 111, 114] := (Option.some.inj e1).symm
 subst en
 obtain rfl := Option.some.inj (Tryz.etR.symm.trans e2)
 have hm : ty ∈ (List.range 294).filter fun t => Tryz.prog.rowNamed t [101, 114, 114, 111, 114] := List.mem_filter.2 ⟨List.mem_range.2 (by rw [← Tryz.etSize]; exact e3), e4⟩
 rw [Tryz.etOne] at hm
 obtain rfl := List.mem_singleton.1 hm
 have hh : typeHandle Tryz.prog 32 = .pointer (some ⟨17, 32, none⟩) := by kernel_rfl
 rw [hh] at e5
 unfold Handle
 simpa using World.var?_cell Tryz.etG e5 0
end Go.Proofs.YtefkchmahcjleaaGreatDoor
