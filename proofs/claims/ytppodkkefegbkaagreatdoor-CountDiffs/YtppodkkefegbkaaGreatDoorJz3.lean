/-
 What the reference's Byte, below, Decimal, NumberOf and IsName answer, and the program's goods.Name, over whatever world.
-/
import Derived.Test.YtppodkkefegbkaaGreatDoorJz2
import Derived.Sort.LotA
import Derived.Lib.Small
import Derived.Deep.RegionHeld3
import Derived.Sort.Walk0
import Derived.Laws.Cover1
import Derived.OwnWalk
import Derived.Deep.AppendLies
import Derived.WalkKit
import Derived.Test.YtppodkkefegbkaaGreatDoorRows
import Derived.LaidLaws
import Derived.LaidHandle
import Derived.Stop.LaidErr
import Derived.Deep.RegionWith
set_option maxRecDepth 100000
set_option maxHeartbeats 16000000
namespace Go.Proofs.YtppodkkefegbkaaGreatDoor
open Go.RowKit Go.Lib Go.Sort
def nameB (c : UInt8) : Bool := (decide (97 ≤ c.toNat) && decide (c.toNat ≤ 122)) || (decide (48 ≤ c.toNat) && decide (c.toNat ≤ 57))
def isName (l : List UInt8) : Bool := l.all nameB && (decide (1 ≤ l.length) && decide (l.length ≤ 8))
theorem name_false_of (s : ByteArray) (k : Nat) (h : k < s.size) (hd : nameB s[k] = false) : s.data.toList.all nameB = false := by
 rw [List.all_eq_false]
 refine ⟨s[k], ?_, by rw [hd]; decide⟩
 have := List.getElem_mem (l := s.data.toList) (n := k) (by rw [size_len]; exact h)
 exact this
theorem name_bad (s : ByteArray) (k : Nat) (w : World) (h : k < s.size) (hd : nameB s[k] = false) : Ending.returned (.bool false) = Ending.returned (.bool (isName s.data.toList)) ∧ w = w := by
 unfold isName
 rw [name_false_of s k h hd]; exact ⟨rfl, rfl⟩
theorem name_good (s : ByteArray) (k : Nat) (w : World) (h : s.size ≤ k) (ha : (s.data.toList.take k).all nameB = true) : Ending.returned (.bool (decide (1 ≤ s.size) && decide (s.size ≤ 8))) = Ending.returned (.bool (isName s.data.toList)) ∧ w = w := by
 rw [List.take_of_length_le (by rw [size_len]; exact h)] at ha
 unfold isName
 rw [ha, size_len]; exact ⟨rfl, rfl⟩
theorem nameByte_any (c : Int) (w : World) (h0 : 0 ≤ c) (h1 : c ≤ 255) :
  Calls Tryz.prog 108 #[.int .u8 c] w fun e w' => e = .returned (.bool ((decide (97 ≤ c) && decide (c ≤ 122)) || (decide (48 ≤ c) && decide (c ≤ 57)))) ∧ w' = w := by
 by_cases a : 97 ≤ c
 ·by_cases b : c ≤ 122
  ·go_enter Tryz.func108, Tryz.ntmps108
   go_wp2
   go_ret
   exact ⟨by simp [a, b], rfl⟩
  ·go_enter Tryz.func108, Tryz.ntmps108
   go_wp2
   go_ret
   exact ⟨by simp <;> omega, rfl⟩
 ·by_cases b : 48 ≤ c
  ·by_cases d : c ≤ 57
   ·go_enter Tryz.func108, Tryz.ntmps108
    go_wp2
    go_ret
    exact ⟨by simp <;> omega, rfl⟩
   ·go_enter Tryz.func108, Tryz.ntmps108
    go_wp2
    go_ret
    exact ⟨by simp <;> omega, rfl⟩
  ·go_enter Tryz.func108, Tryz.ntmps108
   go_wp2
   go_ret
   exact ⟨by simp <;> omega, rfl⟩
theorem nameByte_yes (c : Int) (w : World) (h0 : 0 ≤ c) (h1 : c ≤ 255) (h : (97 ≤ c ∧ c ≤ 122) ∨ (48 ≤ c ∧ c ≤ 57)) :
  Calls Tryz.prog 108 #[.int .u8 c] w fun e w' => e = .returned (.bool true) ∧ w' = w := by
 refine (nameByte_any c w h0 h1).mono ?_
 rintro e w' ⟨rfl, rfl⟩
 exact ⟨by simp <;> omega, rfl⟩
theorem nameByte_no (c : Int) (w : World) (h0 : 0 ≤ c) (h1 : c ≤ 255) (h : ¬ ((97 ≤ c ∧ c ≤ 122) ∨ (48 ≤ c ∧ c ≤ 57))) :
  Calls Tryz.prog 108 #[.int .u8 c] w fun e w' => e = .returned (.bool false) ∧ w' = w := by
 refine (nameByte_any c w h0 h1).mono ?_
 rintro e w' ⟨rfl, rfl⟩
 exact ⟨by simp <;> omega, rfl⟩
theorem name_any (s : ByteArray) (w : World) (hz : s.size ≤ maxLen) :
  Calls Tryz.prog 77 #[.string s] w fun e w' => e = .returned (.bool (isName s.data.toList)) ∧ w' = w := by
 unfold maxLen at hz
 by_cases h0 : 1 ≤ s.size
 ·have he := isEmpty_of s h0
  have he' : ¬ s.toList = [] := by rw [← List.isEmpty_iff, he]; decide
  by_cases h1 : s.size ≤ 8
  ·go_enter Tryz.func77, Tryz.ntmps77
   go_wp2
   go_loop [13] (fun i => ∃ k : Nat, k ≤ s.size ∧ i = .int .i64 k ∧ (s.data.toList.take k).all nameB = true) (fun i => s.size - (RowKit.intOf i).toNat)
   case atStart => exact ⟨0, Nat.zero_le _, rfl, rfl⟩
   case round =>
    obtain ⟨k, hk, rfl, hall⟩ := hrel
    by_cases hlt : k < s.size
    ·have HS : Hid (s.data.toList.take (k + 1) = s.data.toList.take k ++ [s[k]]) := take_snoc s k hlt
     have HA : Hid ((s.data.toList.take k).all nameB = true) := hall
     clear hall
     have hb : 0 ≤ (s[k].toNat : Int) ∧ (s[k].toNat : Int) ≤ 255 := by have := s[k].toNat_lt; omega
     by_cases hc : (97 ≤ (s[k].toNat : Int) ∧ (s[k].toNat : Int) ≤ 122) ∨ (48 ≤ (s[k].toNat : Int) ∧ (s[k].toNat : Int) ≤ 57)
     ·have hy := nameByte_yes s[k].toNat w hb.1 hb.2 hc
      have HC : Hid (nameB s[k] = true) := by show _ = _; unfold nameB; simp; omega
      clear hc
      go_wp2_with (go_at_call 108; refine hy.mono ?_; rintro e w1 ⟨rfl, rfl⟩)
      go_round
      case rel => exact ⟨k + 1, by omega, by go_num, by rw [HS.out, List.all_append, HA.out]; simp [HC.out]⟩
      case measure => simp [RowKit.intOf]; omega
     ·have hy := nameByte_no s[k].toNat w hb.1 hb.2 hc
      have HC : Hid (nameB s[k] = false) := by show _ = _; unfold nameB; simp; omega
      clear hc
      go_wp2_with (go_at_call 108; refine hy.mono ?_; rintro e w1 ⟨rfl, rfl⟩)
      go_ret
      exact name_bad s k _ hlt HC.out
    ·go_wp2
     go_ret
     have := name_good s k w (by omega) hall
     rw [decide_eq_true h0, decide_eq_true h1] at this
     exact this
  ·go_enter Tryz.func77, Tryz.ntmps77
   go_wp2
   go_ret
   refine ⟨?_, rfl⟩
   unfold isName
   rw [size_len, decide_eq_false h1]; simp
 ·have hs : s.data.toList = [] := List.eq_nil_of_length_eq_zero (by rw [size_len]; omega)
  have he : s = ByteArray.empty := isEmpty_nil hs
  clear hs
  subst he
  go_enter Tryz.func77, Tryz.ntmps77
  go_wp2
  go_ret
  exact ⟨rfl, rfl⟩
theorem isName_any (s : ByteArray) (w : World) (hz : s.size ≤ maxLen) :
  Calls Tryz.prog 43 #[.string s] w fun e w' => e = .returned (.bool (isName s.data.toList)) ∧ w' = w := by
 unfold maxLen at hz
 go_enter Tryz.func43, Tryz.ntmps43
 go_wp2
 go_loop [3] (fun i => ∃ k : Nat, k ≤ s.size ∧ i = .int .i64 k ∧ (s.data.toList.take k).all nameB = true) (fun i => s.size - (RowKit.intOf i).toNat)
 case atStart => exact ⟨0, Nat.zero_le _, rfl, rfl⟩
 case round =>
  obtain ⟨k, hk, rfl, hall⟩ := hrel
  by_cases hlt : k < s.size
  ·have HS : Hid (s.data.toList.take (k + 1) = s.data.toList.take k ++ [s[k]]) := take_snoc s k hlt
   have HA : Hid ((s.data.toList.take k).all nameB = true) := hall
   clear hall
   have hb : 0 ≤ (s[k].toNat : Int) ∧ (s[k].toNat : Int) ≤ 255 := by have := s[k].toNat_lt; omega
   have hcases : (s[k].toNat : Int) < 48 ∨ (48 ≤ (s[k].toNat : Int) ∧ (s[k].toNat : Int) ≤ 57) ∨ (57 < (s[k].toNat : Int) ∧ (s[k].toNat : Int) < 97) ∨ (97 ≤ (s[k].toNat : Int) ∧ (s[k].toNat : Int) ≤ 122) ∨ 122 < (s[k].toNat : Int) := by omega
   rcases hcases with hc | hc | hc | hc | hc
   ·have HC : Hid (nameB s[k] = false) := by show _ = _; unfold nameB; simp; omega
    go_wp2
    go_ret
    exact name_bad s k _ hlt HC.out
   ·have HC : Hid (nameB s[k] = true) := by show _ = _; unfold nameB; simp; omega
    obtain ⟨c1, c2⟩ := hc
    go_wp2
    go_round
    case rel => exact ⟨k + 1, by omega, by go_num, by rw [HS.out, List.all_append, HA.out]; simp [HC.out]⟩
    case measure => simp [RowKit.intOf]; omega
   ·have HC : Hid (nameB s[k] = false) := by show _ = _; unfold nameB; simp; omega
    obtain ⟨c1, c2⟩ := hc
    have b1 : decide ((s[k].toNat : Int) ≤ 57) = false := decide_eq_false (by omega)
    go_wp2
    go_ret
    exact name_bad s k _ hlt HC.out
   ·have HC : Hid (nameB s[k] = true) := by show _ = _; unfold nameB; simp; omega
    obtain ⟨c1, c2⟩ := hc
    go_wp2
    go_round
    case rel => exact ⟨k + 1, by omega, by go_num, by rw [HS.out, List.all_append, HA.out]; simp [HC.out]⟩
    case measure => simp [RowKit.intOf]; omega
   ·have HC : Hid (nameB s[k] = false) := by show _ = _; unfold nameB; simp; omega
    have b1 : decide ((s[k].toNat : Int) ≤ 57) = false := decide_eq_false (by omega)
    have b2 : decide ((s[k].toNat : Int) ≤ 122) = false := decide_eq_false (by omega)
    go_wp2
    go_ret
    exact name_bad s k _ hlt HC.out
  ·have HA : Hid ((s.data.toList.take k).all nameB = true) := hall
   clear hall
   by_cases h1 : 1 ≤ s.size
   ·go_wp2
    go_ret
    have := name_good s k w (by omega) HA.out
    rw [decide_eq_true h1] at this
    have e2 : decide ((s.size : Int) ≤ 8) = decide (s.size ≤ 8) := decide_eq_decide.2 (by omega)
    simpa [e2] using this
   ·go_wp2
    go_ret
    have := name_good s k w (by omega) HA.out
    rw [decide_eq_false h1] at this
    simpa using this
end Go.Proofs.YtppodkkefegbkaaGreatDoor
namespace Go.Proofs.YtppodkkefegbkaaGreatDoor
open Go.Lib Go.Sort
abbrev Pl := ByteArray × Int × Int
def zLt (a b : ByteArray) : Bool := decide (a.data.toList < b.data.toList)
def cmpZ (a b : ByteArray) : Int := if zLt a b then -1 else if zLt b a then 1 else 0
def or3 (a b c : Int) : Int := if a = 0 then (if b = 0 then c else b) else a
def bays (r a b : Int) : Int := if r.tmod 2 = 0 then compareInt b a else compareInt a b
def cmpP (x y : Pl) : Int := or3 (cmpZ x.1 y.1) (compareInt x.2.1 y.2.1) (bays x.2.1 x.2.2 y.2.2)
def aheadP (x y : Pl) : Bool := decide (cmpP x y < 0)
theorem zLt_irrefl (a : ByteArray) : zLt a a = false := by unfold zLt; simp [List.lt_irrefl]
theorem zLt_asymm {a b : ByteArray} (h : zLt a b = true) : zLt b a = false := by
 unfold zLt at *; simp only [decide_eq_true_eq, decide_eq_false_iff_not] at *
 exact fun h' => List.lt_irrefl _ (List.lt_trans h h')
theorem zLt_trans {a b c : ByteArray} (h : zLt a b = true) (h' : zLt b c = true) : zLt a c = true := by
 unfold zLt at *; simp only [decide_eq_true_eq] at *
 exact List.lt_trans h h'
theorem zLt_total {a b : ByteArray} (h : zLt a b = false) (h' : zLt b a = false) : a = b := by
 unfold zLt at *; simp only [decide_eq_false_iff_not, List.not_lt] at *
 have e := List.le_antisymm h' h
 cases a; cases b; simp at e; simp [e]
theorem cmpZ_self (a : ByteArray) : cmpZ a a = 0 := by unfold cmpZ; simp [zLt_irrefl]
theorem cmpZ_cases (a b : ByteArray) : (zLt a b = true ∧ zLt b a = false ∧ a ≠ b ∧ cmpZ a b = -1) ∨ (zLt a b = false ∧ zLt b a = true ∧ a ≠ b ∧ cmpZ a b = 1) ∨ (zLt a b = false ∧ zLt b a = false ∧ a = b ∧ cmpZ a b = 0) := by
 cases h1 : zLt a b with
 | true =>
  have h2 := zLt_asymm h1
  refine Or.inl ⟨rfl, h2, ?_, by unfold cmpZ; simp [h1]⟩
  rintro rfl; rw [zLt_irrefl] at h1; cases h1
 | false =>
  cases h2 : zLt b a with
  | true =>
   refine Or.inr (Or.inl ⟨rfl, rfl, ?_, by unfold cmpZ; simp [h1, h2]⟩)
   rintro rfl; rw [zLt_irrefl] at h2; cases h2
  | false => exact Or.inr (Or.inr ⟨rfl, rfl, zLt_total h1 h2, by unfold cmpZ; simp [h1, h2]⟩)
theorem cmpI_cases (a b : Int) : (a < b ∧ compareInt a b = -1) ∨ (b < a ∧ compareInt a b = 1) ∨ (a = b ∧ compareInt a b = 0) := by
 unfold compareInt
 rcases Int.lt_trichotomy a b with h | h | h
 ·exact Or.inl ⟨h, by rw [if_pos h]⟩
 ·exact Or.inr (Or.inr ⟨h, by subst h; simp⟩)
 ·exact Or.inr (Or.inl ⟨h, by rw [if_neg (by omega), if_pos h]⟩)
def aheadW (x y : Pl) : Prop := zLt x.1 y.1 = true ∨ (x.1 = y.1 ∧ (x.2.1 < y.2.1 ∨ (x.2.1 = y.2.1 ∧ ((x.2.1.tmod 2 = 0 ∧ y.2.2 < x.2.2) ∨ (x.2.1.tmod 2 ≠ 0 ∧ x.2.2 < y.2.2)))))
theorem aheadP_iff (x y : Pl) : aheadP x y = true ↔ aheadW x y := by
 obtain ⟨a, r, b⟩ := x
 obtain ⟨a', r', b'⟩ := y
 unfold aheadP aheadW cmpP or3 bays
 simp only [decide_eq_true_eq]
 rcases cmpZ_cases a a' with ⟨h1, h2, h3, h4⟩ | ⟨h1, h2, h3, h4⟩ | ⟨h1, h2, h3, h4⟩
 ·rw [h4, h1]; simp
 ·rw [h4, h1]; simp [h3]
 ·rw [h4, h1]
  subst h3
  rcases cmpI_cases r r' with ⟨k1, k2⟩ | ⟨k1, k2⟩ | ⟨k1, k2⟩
  ·rw [k2]; simp [k1]
  ·rw [k2]; simp; omega
  ·rw [k2]; subst k1
   by_cases hp : r.tmod 2 = 0
   ·rcases cmpI_cases b' b with ⟨m1, m2⟩ | ⟨m1, m2⟩ | ⟨m1, m2⟩ <;> simp [hp, m2] <;> omega
   ·rcases cmpI_cases b b' with ⟨m1, m2⟩ | ⟨m1, m2⟩ | ⟨m1, m2⟩ <;> simp [hp, m2] <;> omega
theorem aheadW_irrefl (x : Pl) : ¬ aheadW x x := by
 unfold aheadW; rw [zLt_irrefl]; simp
theorem aheadW_trans {x y z : Pl} (h : aheadW x y) (h' : aheadW y z) : aheadW x z := by
 obtain ⟨a, r, b⟩ := x
 obtain ⟨a', r', b'⟩ := y
 obtain ⟨a'', r'', b''⟩ := z
 unfold aheadW at *
 simp only at *
 rcases h with h | ⟨rfl, h⟩
 ·rcases h' with h' | ⟨rfl, h'⟩
  ·exact Or.inl (zLt_trans h h')
  ·exact Or.inl h
 ·rcases h' with h' | ⟨rfl, h'⟩
  ·exact Or.inl h'
  ·refine Or.inr ⟨rfl, ?_⟩
   rcases h with h | ⟨rfl, h⟩
   ·rcases h' with h' | ⟨rfl, h'⟩
    ·exact Or.inl (by omega)
    ·exact Or.inl h
   ·rcases h' with h' | ⟨rfl, h'⟩
    ·exact Or.inl h'
    ·refine Or.inr ⟨rfl, ?_⟩
     rcases h with ⟨p, h⟩ | ⟨p, h⟩ <;> rcases h' with ⟨p', h'⟩ | ⟨p', h'⟩
     ·exact Or.inl ⟨p, by omega⟩
     ·exact absurd p p'
     ·exact absurd p' p
     ·exact Or.inr ⟨p, by omega⟩
theorem aheadW_total (x y : Pl) : aheadW x y ∨ aheadW y x ∨ x = y := by
 obtain ⟨a, r, b⟩ := x
 obtain ⟨a', r', b'⟩ := y
 unfold aheadW
 simp only
 rcases cmpZ_cases a a' with ⟨h1, h2, h3, h4⟩ | ⟨h1, h2, h3, h4⟩ | ⟨h1, h2, h3, h4⟩
 ·exact Or.inl (Or.inl h1)
 ·exact Or.inr (Or.inl (Or.inl h2))
 ·subst h3
  rcases Int.lt_trichotomy r r' with k | k | k
  ·exact Or.inl (Or.inr ⟨rfl, Or.inl k⟩)
  ·subst k
   by_cases hp : r.tmod 2 = 0
   ·rcases Int.lt_trichotomy b b' with m | m | m
    ·exact Or.inr (Or.inl (Or.inr ⟨rfl, Or.inr ⟨rfl, Or.inl ⟨hp, m⟩⟩⟩))
    ·subst m; exact Or.inr (Or.inr rfl)
    ·exact Or.inl (Or.inr ⟨rfl, Or.inr ⟨rfl, Or.inl ⟨hp, m⟩⟩⟩)
   ·rcases Int.lt_trichotomy b b' with m | m | m
    ·exact Or.inl (Or.inr ⟨rfl, Or.inr ⟨rfl, Or.inr ⟨hp, m⟩⟩⟩)
    ·subst m; exact Or.inr (Or.inr rfl)
    ·exact Or.inr (Or.inl (Or.inr ⟨rfl, Or.inr ⟨rfl, Or.inr ⟨hp, m⟩⟩⟩))
  ·exact Or.inr (Or.inl (Or.inr ⟨rfl, Or.inl k⟩))
def well (r b : Int) : Bool := decide (1 ≤ r) && decide (r ≤ 20) && (decide (1 ≤ b) && decide (b ≤ 40))
def placeErr (x : Pl) : Nat := if isName x.1.data.toList then (if well x.2.1 x.2.2 then 0 else 2) else 5
theorem placeErr_le (x : Pl) : placeErr x ≤ 12 := by
 unfold placeErr; split
 ·split <;> decide
 ·decide
def okP (x : Pl) : Bool := isName x.1.data.toList && well x.2.1 x.2.2
theorem okP_err (x : Pl) : okP x = true ↔ placeErr x = 0 := by
 unfold okP placeErr
 cases isName x.1.data.toList <;> cases well x.2.1 x.2.2 <;> simp
theorem okP_bounds {x : Pl} (h : okP x = true) : isName x.1.data.toList = true ∧ 1 ≤ x.2.1 ∧ x.2.1 ≤ 20 ∧ 1 ≤ x.2.2 ∧ x.2.2 ≤ 40 := by
 unfold okP well at h
 simp at h
 exact ⟨h.1, h.2.1.1, h.2.1.2, h.2.2.1, h.2.2.2⟩
end Go.Proofs.YtppodkkefegbkaaGreatDoor
namespace Go.Proofs.YtppodkkefegbkaaGreatDoor
open Go.RowKit Go.Lib Go.Sort
theorem nanS (x : ByteArray) (w : World) : Calls Tryz.prog 87 #[.string x] w fun e w' => e = .returned (.bool false) ∧ w' = w := by
 go_enter Tryz.func87, Tryz.ntmps87
 go_wp2
 go_ret
 exact ⟨by simp, rfl⟩
theorem nanI (x : Int) (w : World) : Calls Tryz.prog 81 #[.int .i64 x] w fun e w' => e = .returned (.bool false) ∧ w' = w := by
 go_enter Tryz.func81, Tryz.ntmps81
 go_wp2
 go_ret
 exact ⟨by simp, rfl⟩
theorem less_eq (x y : ByteArray) : Op.bytesLess x.toList y.toList = zLt x y := by
 rw [bytesLess_eq, Lib.toList_data, Lib.toList_data]; rfl
theorem cmpI_any (x y : Int) (w : World) : Calls Tryz.prog 49 #[.int .i64 x, .int .i64 y] w fun e w' => e = .returned (.int .i64 (compareInt x y)) ∧ w' = w := by
 go_enter Tryz.func49, Tryz.ntmps49
 go_wp2_with (go_at_call 81; refine (nanI _ _).mono ?_; rintro e w1 ⟨rfl, rfl⟩)
 all_goals (go_ret; refine ⟨?_, rfl⟩; unfold Lib.compareInt; (repeat' split) <;> first | rfl | (exfalso; omega))
theorem same_eq (x y : ByteArray) : (x.toList == y.toList) = decide (x = y) := by
 rw [Lib.toList_data, Lib.toList_data, Bool.eq_iff_iff]
 simp only [beq_iff_eq, decide_eq_true_eq]
 constructor
 ·intro h; cases x; cases y; simp at h; simp [h]
 ·rintro rfl; rfl
theorem cmpS_any (x y : ByteArray) (w : World) : Calls Tryz.prog 58 #[.string x, .string y] w fun e w' => e = .returned (.int .i64 (cmpZ x y)) ∧ w' = w := by
 have e1 := less_eq x y
 have e3 := same_eq x y
 rcases cmpZ_cases x y with ⟨h1, h2, h3, h4⟩ | ⟨h1, h2, h3, h4⟩ | ⟨h1, h2, h3, h4⟩
 ·rw [h1] at e1
  rw [h4]
  clear h1 h2 h3 h4 e3
  go_enter Tryz.func58, Tryz.ntmps58
  go_wp2_with (go_at_call 87; refine (nanS _ _).mono ?_; rintro e w1 ⟨rfl, rfl⟩)
  go_ret
  exact ⟨rfl, rfl⟩
 ·rw [h1] at e1
  rw [decide_eq_false h3] at e3
  rw [h4]
  clear h1 h2 h3 h4
  go_enter Tryz.func58, Tryz.ntmps58
  go_wp2_with (go_at_call 87; refine (nanS _ _).mono ?_; rintro e w1 ⟨rfl, rfl⟩)
  go_ret
  exact ⟨rfl, rfl⟩
 ·rw [h1] at e1
  rw [h4]
  subst h3
  clear h1 h2 h4 e3
  go_enter Tryz.func58, Tryz.ntmps58
  go_wp2_with (go_at_call 87; refine (nanS _ _).mono ?_; rintro e w1 ⟨rfl, rfl⟩)
  go_ret
  exact ⟨rfl, rfl⟩
def or2 (a b : Int) : Int := if a = 0 then b else a
def stp (c : UInt8) (st : List (List UInt8) × List UInt8) (b : UInt8) : List (List UInt8) × List UInt8 := if b = c then (st.1 ++ [st.2], []) else (st.1, st.2 ++ [b])
def sp (c : UInt8) (l : List UInt8) : List (List UInt8) × List UInt8 := l.foldl (stp c) ([], [])
end Go.Proofs.YtppodkkefegbkaaGreatDoor
namespace Go.Proofs.YtppodkkefegbkaaGreatDoor
open Go.RowKit Go.Lib
end Go.Proofs.YtppodkkefegbkaaGreatDoor
namespace Go.Proofs.YtppodkkefegbkaaGreatDoor
open Go.ChangeShapes Go.WideShapes Go.RowKit
theorem Tryz.own : ownKnob Tryz.prog.godebug = none := by kernel_rfl
theorem Tryz.cellsE : Tryz.prog.cellsOf 246 = 1 := by kernel_rfl
theorem Tryz.cellsS : Tryz.prog.cellsOf 9 = 1 := by kernel_rfl
theorem Tryz.star : "*" ++ "errors.errorString" = "*errors.errorString" := by decide
theorem Tryz.rowE (u : TypeId) (h : Tryz.prog.typeName? 3 u = some "*errors.errorString") : u = 225 :=
 typeName_ptr_named (nm := "errors.errorString") (by rw [Tryz.star]; kernel_rfl) (by kernel_rfl) (by decide) u (by rw [Tryz.star]; exact h)
abbrev errD (text : List UInt8) : DataW Unit := .iface "*errors.errorString" (.ptr (.agg [.lit (.string text)]))
def SentRow (W : World) (g : Nat) (a : Addr) : Prop := W.cell? ⟨g, 0, none⟩ = some (err a) ∧ ∃ c t, W.heap[a.block]? = some (.cells c t (0, 0))
theorem sents_of_laid {W : World} : ∀ (l : List (Nat × String × List UInt8)) (ps : List MemPlace), (∀ x ∈ l, Tryz.prog.globalNamed x.2.1 = some x.1 ∧ (Tryz.prog.globals[x.1]?).map (·.type) = some 32) →
  DataW.LaidVars Tryz.prog W (l.map fun x => (x.2.1, errD x.2.2)) ps → ps.Nodup →
  (∀ b off, MemPlace.cell b off ∈ ps → (∃ c t, W.heap[b]? = some (.cells c t (0, 0))) ∧ ∀ u v, W.cell? ⟨b, off, none⟩ = some (.iface u v) → Value.okWide Tryz.prog W .any 0 u v) →
  ∃ al : List Addr, al.length = l.length ∧ (∀ a ∈ al, MemPlace.cell a.block a.off ∈ ps) ∧ al.Nodup ∧ ∀ i, i < l.length → SentRow W (l.getD i (0, default, [])).1 (al.getD i ⟨0, 0, none⟩)
 | [], _, _, _, _, _ => ⟨[], rfl, (fun a h => by cases h), List.nodup_nil, fun i h => absurd h (Nat.not_lt_zero _)⟩
 | x :: l, ps, hx, hl, hnd, hrows => by
  obtain ⟨g, t, cs, fuel, p, q, hg, ht, hv, hd, hq, rfl⟩ := hl
  obtain ⟨hg', ht'⟩ := hx x (List.mem_cons_self ..)
  obtain rfl := Option.some.inj (hg'.symm.trans hg)
  obtain rfl := Option.some.inj (ht'.symm.trans ht)
  obtain ⟨cl⟩ := cs
  have ok : ∀ u v, cl = [.iface u v] → Value.okWide Tryz.prog W .any 0 u v := fun u v e => by
   subst e
   exact (hrows x.1 0 (by simp [MemPlace.row])).2 u v (by simpa using World.var?_cell hg hv 0)
  obtain ⟨a, s0, rfl, hc0, hs0, hz0, rfl⟩ := errorString_of_trod Tryz.underlying32 Tryz.rowE Tryz.underlying225 Tryz.underlying246 rfl rfl Tryz.underlying9 Tryz.cellsE Tryz.cellsS hd ok
  obtain ⟨al, hlen, hmem, hasnd, hrow⟩ := sents_of_laid l q (fun y hy => hx y (List.mem_cons_of_mem _ hy)) hq (List.Nodup.sublist (List.sublist_append_right _ _) hnd) (fun b off hm => hrows b off (List.mem_append_right _ hm))
  have hain : MemPlace.cell a.block a.off ∈ MemPlace.row ⟨x.1, 0, none⟩ (⟨[Value.iface 225 (Value.pointer (some a))]⟩ : Array Value).size ++ MemPlace.row a 1 := List.mem_append_right _ (by simp [MemPlace.row])
  refine ⟨a :: al, by simp [hlen], ?_, ?_, ?_⟩
  ·intro b hb
   rcases List.mem_cons.1 hb with rfl | hb
   ·exact List.mem_append_left _ hain
   ·exact List.mem_append_right _ (hmem b hb)
  ·refine List.nodup_cons.2 ⟨fun hin => ?_, hasnd⟩
   exact (List.nodup_append.1 hnd).2.2 _ hain _ (hmem a hin) rfl
  ·intro i hi
   rcases i with _ | i
   ·exact ⟨by simpa using World.var?_cell hg hv 0, (hrows a.block a.off (List.mem_append_left _ hain)).1⟩
   ·simpa using hrow i (by simpa using hi)
def sentList : List (Nat × String × List UInt8) := [
 (6, "tithebarn/api.ErrText", [116, 105, 116, 104, 101, 98, 97, 114, 110, 58, 32, 116, 101, 120, 116]),
 (5, "tithebarn/api.ErrBound", [116, 105, 116, 104, 101, 98, 97, 114, 110, 58, 32, 98, 111, 117, 110, 100]),
 (0, "tithebarn/api.ErrShape", [116, 105, 116, 104, 101, 98, 97, 114, 110, 58, 32, 115, 104, 97, 112, 101]),
 (7, "tithebarn/api.ErrKind", [116, 105, 116, 104, 101, 98, 97, 114, 110, 58, 32, 107, 105, 110, 100]),
 (8, "tithebarn/api.ErrName", [116, 105, 116, 104, 101, 98, 97, 114, 110, 58, 32, 110, 97, 109, 101]),
 (1, "tithebarn/api.ErrNone", [116, 105, 116, 104, 101, 98, 97, 114, 110, 58, 32, 110, 111, 110, 101]),
 (2, "tithebarn/api.ErrExist", [116, 105, 116, 104, 101, 98, 97, 114, 110, 58, 32, 101, 120, 105, 115, 116]),
 (3, "tithebarn/api.ErrFull", [116, 105, 116, 104, 101, 98, 97, 114, 110, 58, 32, 102, 117, 108, 108]),
 (4, "tithebarn/api.ErrShort", [116, 105, 116, 104, 101, 98, 97, 114, 110, 58, 32, 115, 104, 111, 114, 116]),
 (9, "tithebarn/api.ErrOrder", [116, 105, 116, 104, 101, 98, 97, 114, 110, 58, 32, 111, 114, 100, 101, 114]),
 (10, "tithebarn/api.ErrState", [116, 105, 116, 104, 101, 98, 97, 114, 110, 58, 32, 115, 116, 97, 116, 101]),
 (11, "tithebarn/api.ErrOff", [116, 105, 116, 104, 101, 98, 97, 114, 110, 58, 32, 111, 102, 102])]
theorem sentList_ok : (sentList.all fun x => decide (Tryz.prog.globalNamed x.2.1 = some x.1) && decide ((Tryz.prog.globals[x.1]?).map (·.type) = some 32)) = true := by kernel_rfl
theorem sent_of_laid {W : World} (h : laidMet Tryz.prog (sentList.map fun x => (x.2.1, errD x.2.2)) W) : ∃ s, Sent W s := by
 obtain ⟨ps, hl, hnd, hrows⟩ := h
 obtain ⟨al, hlen, _, hasnd, hrow⟩ := sents_of_laid sentList ps (fun x hx => by
  have := List.all_eq_true.1 sentList_ok x hx
  simpa using this) hl hnd hrows
 have h12 : al.length = 12 := hlen
 refine ⟨fun i => al.getD i ⟨0, 0, none⟩, ?_, fun i hi => (hrow i hi).2, ?_⟩
 ·intro i hi
  have hr := (hrow i hi).1
  rcases i with _ | _ | _ | _ | _ | _ | _ | _ | _ | _ | _ | _ | i
  all_goals first | exact hr | omega
 ·intro i j hi hj he
  have e1 : al.getD i ⟨0, 0, none⟩ = al[i] := by rw [List.getD_eq_getElem?_getD, List.getElem?_eq_getElem (by omega)]; rfl
  have e2 : al.getD j ⟨0, 0, none⟩ = al[j] := by rw [List.getD_eq_getElem?_getD, List.getElem?_eq_getElem (by omega)]; rfl
  simp only [e1, e2] at he
  exact (List.getElem_inj hasnd).1 he
theorem Tryz.etG : Tryz.prog.globalNamed "errors.errorType" = some 12 := by kernel_rfl
theorem Tryz.etR : (Tryz.prog.cutTypes.find? (·.1 == "internal/reflectlite.rtype")).map (·.2) = some 190 := by kernel_rfl
theorem Tryz.etOne : ((List.range 258).filter fun t => Tryz.prog.rowNamed t [101, 114, 114, 111, 114]) = [32] := by kernel_rfl
theorem Tryz.etSize : Tryz.prog.types.size = 258 := by kernel_rfl
theorem handle_of_laid {W : World} (h : handlesMet Tryz.prog [("errors.errorType", Rows.laid_errors_errorType)] W) : Handle W := by
 obtain ⟨name, u, ty, e1, e2, e3, e4, e5⟩ := h _ (List.mem_singleton.2 rfl)
 have en : name = [101, 114, 114, 111, 114] := (Option.some.inj e1).symm
 subst en
 obtain rfl := Option.some.inj (Tryz.etR.symm.trans e2)
 have hm : ty ∈ (List.range 258).filter fun t => Tryz.prog.rowNamed t [101, 114, 114, 111, 114] := List.mem_filter.2 ⟨List.mem_range.2 (by rw [← Tryz.etSize]; exact e3), e4⟩
 rw [Tryz.etOne] at hm
 obtain rfl := List.mem_singleton.1 hm
 have hh : typeHandle Tryz.prog 32 = .pointer (some ⟨13, 32, none⟩) := by kernel_rfl
 rw [hh] at e5
 unfold Handle
 simpa using World.var?_cell Tryz.etG e5 0
end Go.Proofs.YtppodkkefegbkaaGreatDoor
namespace Go.Proofs.YtppodkkefegbkaaGreatDoor
open Go.Shelf Go.RowKit Go.Lib Go.Sort
variable {P : Program} {k : Nat} {α : Type} [Inhabited α]
omit [Inhabited α] in
theorem lt_yesC {cf : α → α → Int} {x y : α} (h : cf x y < 0) : ltOf cf x y = true := decide_eq_true h
omit [Inhabited α] in
theorem lt_noC {cf : α → α → Int} {x y : α} (h : ¬ cf x y < 0) : ltOf cf x y = false := decide_eq_false h
abbrev MergePostC (enc : α → List Value) (k : Nat) (cf : α → α → Int) (w0 : World) (blk off a m b : Nat) (d : Array α) (e : Ending) (w' : World) : Prop :=
 e = .returned (.tuple #[]) ∧ ∃ d', MergedS (ltOf cf) a m b d d' ∧ SWK enc k w0 blk off d' w'
theorem sym_leftC (X : StC P k) (enc : α → List Value) (cf : α → α → Int) (g : Nat) (cb : Array Value) (blk off cap : Nat) (d0 : Array α) (w0 : World)
  (eg : ∀ args w, (callFunc g args).run P w = .ok (.enter g args) w) (hC : CmpLays P g cb enc k cf blk off d0.size w0) (R : RowK enc k w0 blk off d0) (a m b : Nat) (d : Array α) (w : World) (hs : d0.size = d.size) (S : SWK enc k w0 blk off d w) (ham : a < m) (hm : m ≤ a + 1) (hmb : m < b) (hb : b ≤ d.size) (hsz : d.size < 2305843009213693952) :
  Calls P 110 #[.slice (some ⟨blk, off, none⟩) d.size cap, .int .i64 a, .int .i64 m, .int .i64 b, .func (.func g) #[] cb] w (MergePostC enc k cf w0 blk off a m b d) := by
 have mixed := X.mixed; have t0 := X.t0; have a0 := X.a0; have z0 := X.z0; have v0 := X.v0; have t3 := X.t3; have a3 := X.a3; have z3 := X.z3; have v3 := X.v3; have t4 := X.t4; have a4 := X.a4; have z4 := X.z4; have v4 := X.v4; have tU := X.tU; have aU := X.aU; have zU := X.zU; have vU := X.vU; have tL := X.tL; have aL := X.aL; have zL := X.zL; have vL := X.vL; have tF := X.tF; have aF := X.aF; have zF := X.zF; have vF := X.vF; have aE := X.aE; have zE := X.zE
 have HC : Aside (CmpLays P g cb enc k cf blk off d0.size w0) := hC
 clear hC
 have hmz : (((m : Int) - (a : Int)) == 1) = true := by simp; omega
 have S0 : Aside (SWK enc k w0 blk off d w) := S
 clear S
 go_enter X.fM, Tryz.ntmps110
 go_wp2
 go_loopg [10, 11] (b - a) (fun kx s10 s11 wr => ∃ (i j : Nat), s10 = .int .i64 i ∧ s11 = .int .i64 j ∧ a + 1 ≤ i ∧ i ≤ j ∧ j ≤ b ∧ j - i ≤ kx ∧ Hid (a + 1 < i → ltOf cf d[i - 1]! d[a]! = true) ∧ Hid (j < b → ltOf cf d[j]! d[a]! = false) ∧ Aside (SWK enc k w0 blk off d wr))
 case atStart => exact ⟨m, b, rfl, rfl, by omega, by omega, Nat.le_refl _, by omega, (fun h => absurd h (by omega) : a + 1 < m → _), (fun h => absurd h (by omega) : b < b → _), S0⟩
 case round =>
  clear S0
  obtain ⟨i, j, rfl, rfl, hai, hij, hjb, hkx, H1, H2, S1⟩ := hrel
  by_cases hlt : i < j
  ·have hltz : (i : Int) < (j : Int) := by omega
   obtain ⟨h, hh⟩ : ∃ h, h = (i + j) / 2 := ⟨_, rfl⟩
   have hhz : ((i : Int) + (j : Int)) / 2 = (h : Int) := by omega
   have hh1 : i ≤ h := by omega
   have hh2 : h < j := by omega
   clear hh
   have lx := fun n os => S1.out.ld R (by omega) P (h) (by omega) n os
   have ly := fun n os => S1.out.ld R (by omega) P (a) (by omega) n os
   have hcg := fun n os => S1.out.cmp HC.out (by omega) d[h]! d[a]! n os
   have CLS : Hid (∀ n os, SWK enc k w0 blk off d (grow (wr.drewN n) os)) := fun n os => S1.out.grown n os
   generalize hxe : d[h]! = x at lx hcg
   generalize hye : d[a]! = y at ly hcg
   have HXE : Hid (d[h]! = x) := hxe
   have HYE : Hid (d[a]! = y) := hye
   clear hxe hye S1
   have hhd : (h : Int) < (d.size : Int) := by omega
   have had : (a : Int) < (d.size : Int) := by omega
   by_cases hlv : cf x y < 0
   ·have N1 : Hid (a + 1 < h + 1 → ltOf cf d[h + 1 - 1]! d[a]! = true) := fun _ => by rw [Nat.add_sub_cancel, HXE.out, HYE.out]; exact lt_yesC hlv
    go_wp2_with fail
    go_quiet_grown (first | (go_at_fn g; refine Calls.grown_of (hcg _ _)))
    have S2 : Aside (SWK enc k w0 blk off d (grow (wr.drewN nq) osq)) := CLS.out nq osq
    clear CLS lx ly hcg
    generalize grow (wr.drewN nq) osq = w2 at S2 ⊢
    go_wp2
    go_roundg (j - (h + 1))
    case measure => omega
    case rel => exact ⟨h + 1, j, by go_num, rfl, by omega, by omega, hjb, Nat.le_refl _, N1, H2, S2⟩
   ·have N2 : Hid (h < b → ltOf cf d[h]! d[a]! = false) := fun _ => by rw [HXE.out, HYE.out]; exact lt_noC hlv
    go_wp2_with fail
    go_quiet_grown (first | (go_at_fn g; refine Calls.grown_of (hcg _ _)))
    have S2 : Aside (SWK enc k w0 blk off d (grow (wr.drewN nq) osq)) := CLS.out nq osq
    clear CLS lx ly hcg
    generalize grow (wr.drewN nq) osq = w2 at S2 ⊢
    go_wp2
    go_roundg (h - i)
    case measure => omega
    case rel => exact ⟨i, h, rfl, rfl, hai, hh1, by omega, Nat.le_refl _, H1, N2, S2⟩
  ·have hji : j = i := by omega
   subst hji
   have hnot : ¬ (j : Int) < (j : Int) := by omega
   obtain ⟨ip, rfl⟩ : ∃ ip, j = ip + 1 := ⟨j - 1, by omega⟩
   go_wp2
   go_loopg [13] (b - a) (fun kx s13 wr2 => ∃ (t : Nat) (dk : Array α), s13 = .int .i64 t ∧ a ≤ t ∧ t ≤ ip ∧ ip - t ≤ kx ∧ dk.size = d.size ∧ Hid (Rot d dk a (a + 1) (t + 1)) ∧ Hid (PermIn a b d dk) ∧ Aside (SWK enc k w0 blk off dk wr2))
   case atStart => exact ⟨a, d, rfl, Nat.le_refl _, by omega, by omega, rfl, Rot.up0 d a, permIn_refl d a b, S1⟩
   case round =>
    clear S1
    obtain ⟨t, dk, rfl, hat, htp, hkx2, hds, HR, HP, S1⟩ := hrel
    by_cases htl : t < ip
    ·have htlz : (t : Int) < (ip : Int) := by omega
     have NR : Hid (Rot d (swp dk t (t + 1)) a (a + 1) (t + 2)) := HR.out.up hat (by omega)
     have NP : Hid (PermIn a b d (swp dk t (t + 1))) := perm_exch_step HP.out hat (by omega) (by omega) (by omega) hb
     clear HR HP
     go_wp2_with fail
     have ea44 : ((t : Int)).toNat = t := by omega
     have pa44 : (0 : Int) ≤ (t : Int) := by omega
     have ba44 : (t : Int) < (d.size : Int) := by omega
     have ra44 : IntKind.i64.wrap ((t : Int)) = (t : Int) := by rw [IntKind.wrap_i64]; omega
     have ec44 : ((t : Int) + 1).toNat = t + 1 := by omega
     have pc44 : (0 : Int) ≤ (t : Int) + 1 := by omega
     have bc44 : (t : Int) + 1 < (d.size : Int) := by omega
     have rc44 : IntKind.i64.wrap ((t : Int) + 1) = (t : Int) + 1 := by rw [IntKind.wrap_i64]; omega
     have S2 : Aside (SWK enc k w0 blk off (swp dk (t) (t + 1)) ((wr.drew.setCells blk (off + (t) * k) (enc dk[t + 1]!)).setCells blk (off + (t + 1) * k) (enc dk[t]!))) := S1.out.swapped R (t) (t + 1) (by omega) (by omega)
     have l44a := S1.out.ld1 R (by omega) P (t) (by omega)
     have l44b := S1.out.ld1 R (by omega) P (t + 1) (by omega)
     have s44a := S1.out.st1 R (by omega) P (t) (by omega) dk[t + 1]!
     have s44b := S1.out.st2 R (by omega) P (t) (t + 1) (by omega) (by omega) dk[t + 1]! dk[t]!
     have n44a : (enc dk[t]!).length = k := R.hk _
     have n44b : (enc dk[t + 1]!).length = k := R.hk _
     generalize enc dk[t]! = cI44 at S2 l44a s44b n44a
     generalize enc dk[t + 1]! = cJ44 at S2 l44b s44a s44b n44b
     clear S1
     go_wp2_with fail
     go_big_region_o
     clear l44a l44b s44a s44b
     generalize (wr.drew.setCells blk (off + (t) * k) cJ44).setCells blk (off + (t + 1) * k) cI44 = w2 at S2 ⊢
     go_wp2
     go_roundg (ip - (t + 1))
     case measure => omega
     case rel => exact ⟨t + 1, swp dk t (t + 1), by go_num, by omega, by omega, Nat.le_refl _, by rw [size_swp]; exact hds, NR, NP, S2⟩
    ·have htz : ¬ (t : Int) < (ip : Int) := by omega
     have hte : t = ip := by omega
     go_wp2
     (try simp only [Exit.inBlock, Exit.then]); refine bodyPost_ret (results_none rfl _ _ _) rfl ?_
     refine ⟨rfl, dk, ?_, S1.out⟩
     have hr := HR.out
     rw [hte] at hr
     obtain rfl : m = a + 1 := by omega
     exact mergedS_one_left (by omega) hjb HP.out hr H1.out H2.out
theorem sym_rightC (X : StC P k) (enc : α → List Value) (cf : α → α → Int) (g : Nat) (cb : Array Value) (blk off cap : Nat) (d0 : Array α) (w0 : World)
  (eg : ∀ args w, (callFunc g args).run P w = .ok (.enter g args) w) (hC : CmpLays P g cb enc k cf blk off d0.size w0) (R : RowK enc k w0 blk off d0) (a m b : Nat) (d : Array α) (w : World) (hs : d0.size = d.size) (S : SWK enc k w0 blk off d w) (ham : a + 1 < m) (hmb : m < b) (hbm : b ≤ m + 1) (hb : b ≤ d.size) (hsz : d.size < 2305843009213693952) :
  Calls P 110 #[.slice (some ⟨blk, off, none⟩) d.size cap, .int .i64 a, .int .i64 m, .int .i64 b, .func (.func g) #[] cb] w (MergePostC enc k cf w0 blk off a m b d) := by
 have mixed := X.mixed; have t0 := X.t0; have a0 := X.a0; have z0 := X.z0; have v0 := X.v0; have t3 := X.t3; have a3 := X.a3; have z3 := X.z3; have v3 := X.v3; have t4 := X.t4; have a4 := X.a4; have z4 := X.z4; have v4 := X.v4; have tU := X.tU; have aU := X.aU; have zU := X.zU; have vU := X.vU; have tL := X.tL; have aL := X.aL; have zL := X.zL; have vL := X.vL; have tF := X.tF; have aF := X.aF; have zF := X.zF; have vF := X.vF; have aE := X.aE; have zE := X.zE
 have HC : Aside (CmpLays P g cb enc k cf blk off d0.size w0) := hC
 clear hC
 have S0 : Aside (SWK enc k w0 blk off d w) := S
 clear S
 have hma : (((m : Int) - (a : Int)) == 1) = false := by simp; omega
 have hbz : (((b : Int) - (m : Int)) == 1) = true := by simp; omega
 go_enter X.fM, Tryz.ntmps110
 go_wp2
 go_loopg [14, 15] (m - a) (fun kx s10 s11 wr => ∃ (i j : Nat), s10 = .int .i64 i ∧ s11 = .int .i64 j ∧ a ≤ i ∧ i ≤ j ∧ j ≤ m ∧ j - i ≤ kx ∧ Hid (a < i → ltOf cf d[m]! d[i - 1]! = false) ∧ Hid (j < m → ltOf cf d[m]! d[j]! = true) ∧ Aside (SWK enc k w0 blk off d wr))
 case atStart => exact ⟨a, m, rfl, rfl, Nat.le_refl _, by omega, Nat.le_refl _, by omega, (fun h => absurd h (by omega) : a < a → _), (fun h => absurd h (by omega) : m < m → _), S0⟩
 case round =>
  clear S0
  obtain ⟨i, j, rfl, rfl, hai, hij, hjb, hkx, H1, H2, S1⟩ := hrel
  by_cases hlt : i < j
  ·have hltz : (i : Int) < (j : Int) := by omega
   obtain ⟨h, hh⟩ : ∃ h, h = (i + j) / 2 := ⟨_, rfl⟩
   have hhz : ((i : Int) + (j : Int)) / 2 = (h : Int) := by omega
   have hh1 : i ≤ h := by omega
   have hh2 : h < j := by omega
   clear hh
   have lx := fun n os => S1.out.ld R (by omega) P (m) (by omega) n os
   have ly := fun n os => S1.out.ld R (by omega) P (h) (by omega) n os
   have hcg := fun n os => S1.out.cmp HC.out (by omega) d[m]! d[h]! n os
   have CLS : Hid (∀ n os, SWK enc k w0 blk off d (grow (wr.drewN n) os)) := fun n os => S1.out.grown n os
   generalize hxe : d[m]! = x at lx hcg
   generalize hye : d[h]! = y at ly hcg
   have HXE : Hid (d[m]! = x) := hxe
   have HYE : Hid (d[h]! = y) := hye
   clear hxe hye S1
   have hhd : (h : Int) < (d.size : Int) := by omega
   have had : (m : Int) < (d.size : Int) := by omega
   by_cases hlv : cf x y < 0
   ·have N2 : Hid (h < m → ltOf cf d[m]! d[h]! = true) := fun _ => by rw [HXE.out, HYE.out]; exact lt_yesC hlv
    have hdv : decide (cf x y < 0) = true := decide_eq_true hlv
    go_wp2_with fail
    go_quiet_grown (first | (go_at_fn g; refine Calls.grown_of (hcg _ _)))
    have S2 : Aside (SWK enc k w0 blk off d (grow (wr.drewN nq) osq)) := CLS.out nq osq
    clear CLS lx ly hcg
    generalize grow (wr.drewN nq) osq = w2 at S2 ⊢
    go_wp2
    go_roundg (h - i)
    case measure => omega
    case rel => exact ⟨i, h, rfl, rfl, hai, hh1, by omega, Nat.le_refl _, H1, N2, S2⟩
   ·have N1 : Hid (a < h + 1 → ltOf cf d[m]! d[h + 1 - 1]! = false) := fun _ => by rw [Nat.add_sub_cancel, HXE.out, HYE.out]; exact lt_noC hlv
    have hdv : decide (cf x y < 0) = false := decide_eq_false hlv
    go_wp2_with fail
    go_quiet_grown (first | (go_at_fn g; refine Calls.grown_of (hcg _ _)))
    have S2 : Aside (SWK enc k w0 blk off d (grow (wr.drewN nq) osq)) := CLS.out nq osq
    clear CLS lx ly hcg
    generalize grow (wr.drewN nq) osq = w2 at S2 ⊢
    go_wp2
    go_roundg (j - (h + 1))
    case measure => omega
    case rel => exact ⟨h + 1, j, by go_num, rfl, by omega, by omega, hjb, Nat.le_refl _, N1, H2, S2⟩
  ·have hji : j = i := by omega
   subst hji
   have hnot : ¬ (j : Int) < (j : Int) := by omega
   go_wp2
   go_loopg [17] (m - a) (fun kx s13 wr2 => ∃ (t : Nat) (dk : Array α), s13 = .int .i64 t ∧ j ≤ t ∧ t ≤ m ∧ t - j ≤ kx ∧ dk.size = d.size ∧ Hid (Rot d dk t m (m + 1)) ∧ Hid (PermIn a (m + 1) d dk) ∧ Aside (SWK enc k w0 blk off dk wr2))
   case atStart => exact ⟨m, d, rfl, hjb, Nat.le_refl _, by omega, rfl, Rot.down0 d m, permIn_refl d a (m + 1), S1⟩
   case round =>
    clear S1
    obtain ⟨t, dk, rfl, hat, htp, hkx2, hds, HR, HP, S1⟩ := hrel
    by_cases htl : j < t
    ·obtain ⟨tp, rfl⟩ : ∃ tp, t = tp + 1 := ⟨t - 1, by omega⟩
     have htlz : (j : Int) < (tp : Int) + 1 := by omega
     have NR : Hid (Rot d (swp dk (tp + 1) tp) tp m (m + 1)) := HR.out.down (by omega) (by omega)
     have NP : Hid (PermIn a (m + 1) d (swp dk (tp + 1) tp)) := perm_exch_step HP.out (by omega) (by omega) (by omega) (by omega) (by omega)
     clear HR HP
     go_wp2_with fail
     have ea44 : ((tp : Int) + 1).toNat = tp + 1 := by omega
     have pa44 : (0 : Int) ≤ (tp : Int) + 1 := by omega
     have ba44 : (tp : Int) + 1 < (d.size : Int) := by omega
     have ra44 : IntKind.i64.wrap ((tp : Int) + 1) = (tp : Int) + 1 := by rw [IntKind.wrap_i64]; omega
     have ec44 : ((tp : Int)).toNat = tp := by omega
     have pc44 : (0 : Int) ≤ (tp : Int) := by omega
     have bc44 : (tp : Int) < (d.size : Int) := by omega
     have rc44 : IntKind.i64.wrap ((tp : Int)) = (tp : Int) := by rw [IntKind.wrap_i64]; omega
     have S2 : Aside (SWK enc k w0 blk off (swp dk (tp + 1) (tp)) ((wr.drew.setCells blk (off + (tp + 1) * k) (enc dk[tp]!)).setCells blk (off + (tp) * k) (enc dk[tp + 1]!))) := S1.out.swapped R (tp + 1) (tp) (by omega) (by omega)
     have l44a := S1.out.ld1 R (by omega) P (tp + 1) (by omega)
     have l44b := S1.out.ld1 R (by omega) P (tp) (by omega)
     have s44a := S1.out.st1 R (by omega) P (tp + 1) (by omega) dk[tp]!
     have s44b := S1.out.st2 R (by omega) P (tp + 1) (tp) (by omega) (by omega) dk[tp]! dk[tp + 1]!
     have n44a : (enc dk[tp + 1]!).length = k := R.hk _
     have n44b : (enc dk[tp]!).length = k := R.hk _
     generalize enc dk[tp + 1]! = cI44 at S2 l44a s44b n44a
     generalize enc dk[tp]! = cJ44 at S2 l44b s44a s44b n44b
     clear S1
     go_wp2_with fail
     go_big_region_o
     clear l44a l44b s44a s44b
     generalize (wr.drew.setCells blk (off + (tp + 1) * k) cJ44).setCells blk (off + (tp) * k) cI44 = w2 at S2 ⊢
     go_wp2
     go_roundg (tp - j)
     case measure => omega
     case rel => exact ⟨tp, swp dk (tp + 1) tp, by first | rfl | go_num | (congr 1; omega), by omega, by omega, Nat.le_refl _, by rw [size_swp]; exact hds, NR, NP, S2⟩
    ·have htz : ¬ (j : Int) < (t : Int) := by omega
     have hte : t = j := by omega
     go_wp2
     (try simp only [Exit.inBlock, Exit.then]); refine bodyPost_ret (results_none rfl _ _ _) rfl ?_
     refine ⟨rfl, dk, ?_, S1.out⟩
     have hr := HR.out
     rw [hte] at hr
     obtain rfl : b = m + 1 := by omega
     exact mergedS_one_right hai hjb HP.out hr H1.out H2.out
end Go.Proofs.YtppodkkefegbkaaGreatDoor
namespace Go.Proofs.YtppodkkefegbkaaGreatDoor
open Go.Shelf Go.RowKit Go.Lib Go.Sort
variable {P : Program} {k : Nat} {α : Type} [Inhabited α]
def SZC (enc : α → List Value) (k : Nat) (w0 : World) (blk off n : Nat) (d : Array α) (w : World) : Prop := d.size = n ∧ SWK enc k w0 blk off d w
theorem sym_midAC (X : StC P k) (enc : α → List Value) (cf : α → α → Int) (g : Nat) (cb : Array Value) (blk off cap : Nat) (d0 : Array α) (w0 : World)
  (eg : ∀ args w, (callFunc g args).run P w = .ok (.enter g args) w) (hC : CmpLays P g cb enc k cf blk off d0.size w0) (R : RowK enc k w0 blk off d0) (N : Nat)
  (ih : ∀ (a m b : Nat) (d : Array α) (w : World), b - a < N → a < m → m < b → b ≤ d0.size → SZC enc k w0 blk off d0.size d w → Calls P 110 #[.slice (some ⟨blk, off, none⟩) d0.size cap, .int .i64 a, .int .i64 m, .int .i64 b, .func (.func g) #[] cb] w fun e w' => e = .returned (.tuple #[]) ∧ ∃ d', MergedS (ltOf cf) a m b d d' ∧ SZC enc k w0 blk off d0.size d' w')
  (a m b : Nat) (d : Array α) (w : World) (hN : b - a < N + 1) (hs : d0.size = d.size) (S : SWK enc k w0 blk off d w) (ham : a + 1 < m) (hmb : m + 1 < b) (hb : b ≤ d.size) (hsz : d.size < 2305843009213693952) (mid lo hi : Nat) (hmid : mid = (a + b) / 2) (hc : (mid < m ∧ lo = mid + m - b ∧ hi = mid) ∨ (m ≤ mid ∧ lo = a ∧ hi = m)) (hcase : mid < m ∧ (mid : Int) < (m : Int) ∧ (mid : Int) + (m : Int) - (b : Int) = (lo : Int) ∧ hi ≤ mid ∧ mid ≤ hi) :
  Calls P 110 #[.slice (some ⟨blk, off, none⟩) d.size cap, .int .i64 a, .int .i64 m, .int .i64 b, .func (.func g) #[] cb] w fun e w' => e = .returned (.tuple #[]) ∧ ∃ d', MergedS (ltOf cf) a m b d d' ∧ SZC enc k w0 blk off d0.size d' w' := by
 have mixed := X.mixed; have t0 := X.t0; have a0 := X.a0; have z0 := X.z0; have v0 := X.v0; have t3 := X.t3; have a3 := X.a3; have z3 := X.z3; have v3 := X.v3; have t4 := X.t4; have a4 := X.a4; have z4 := X.z4; have v4 := X.v4; have tU := X.tU; have aU := X.aU; have zU := X.zU; have vU := X.vU; have tL := X.tL; have aL := X.aL; have zL := X.zL; have vL := X.vL; have tF := X.tF; have aF := X.aF; have zF := X.zF; have vF := X.vF; have aE := X.aE; have zE := X.zE
 have HC : Aside (CmpLays P g cb enc k cf blk off d0.size w0) := hC
 clear hC
 have eR : ∀ args w, (callFunc 122 args).run P w = .ok (.enter 122 args) w := enters_of X.fR (by kernel_rfl) rfl
 have eM : ∀ args w, (callFunc 110 args).run P w = .ok (.enter 110 args) w := enters_of X.fM (by kernel_rfl) rfl
 rw [hs] at ih
 have HI : Aside (∀ (a m b : Nat) (d' : Array α) (w : World), b - a < N → a < m → m < b → b ≤ d.size → SZC enc k w0 blk off d.size d' w → Calls P 110 #[.slice (some ⟨blk, off, none⟩) d.size cap, .int .i64 a, .int .i64 m, .int .i64 b, .func (.func g) #[] cb] w fun e w' => e = .returned (.tuple #[]) ∧ ∃ d'', MergedS (ltOf cf) a m b d' d'' ∧ SZC enc k w0 blk off d.size d'' w') := ih
 clear ih
 rw [hs]
 have S0 : Aside (SWK enc k w0 blk off d w) := S
 clear S
 have hma : (((m : Int) - (a : Int)) == 1) = false := by simp; omega
 have hbz : (((b : Int) - (m : Int)) == 1) = false := by simp; omega
 have hmidz : ((a : Int) + (b : Int)) / 2 = (mid : Int) := by omega
 have HMID : Hid (mid = (a + b) / 2) := hmid
 have g1 : 2 * mid ≤ a + b := by omega
 have g2 : a + b ≤ 2 * mid + 1 := by omega
 clear hmid
 have HCC : Hid ((mid < m ∧ lo = mid + m - b ∧ hi = mid) ∨ (m ≤ mid ∧ lo = a ∧ hi = m)) := hc
 have b1 : a ≤ lo := by omega
 have b2 : lo ≤ hi := by omega
 have b3 : hi ≤ m := by omega
 have b4 : hi ≤ mid := by omega
 have b5 : mid + m ≤ b + lo := by omega
 have FIN : Hid (∀ start, lo ≤ start → start ≤ hi → (lo < start → ltOf cf d[mid + m - start]! d[start - 1]! = false) → (start < hi → ltOf cf d[mid + m - 1 - start]! d[start]! = true) → ∀ d1 d2 d3, PermIn start (mid + m - start) d d1 → Rot d d1 start m (mid + m - start) → MergedS (ltOf cf) a start mid d1 d2 → MergedS (ltOf cf) mid (mid + m - start) b d2 d3 → MergedS (ltOf cf) a m b d d3) := fun start h1 h2 h3 h4 d1 d2 d3 p r m1 m2 => mergedS_mid hb (by omega) (by omega) HMID.out HCC.out h1 h2 h3 h4 p r m1 m2
 clear HCC hc HMID
 obtain ⟨q1, q2, q3, q4, q5⟩ := hcase
 all_goals
  go_enter X.fM, Tryz.ntmps110
  go_wp2
  go_loopg [20, 21] (b - a) (fun kx s20 s21 wr => ∃ (i j : Nat), s20 = .int .i64 i ∧ s21 = .int .i64 j ∧ lo ≤ i ∧ i ≤ j ∧ j ≤ hi ∧ j - i ≤ kx ∧ Hid (lo < i → ltOf cf d[mid + m - i]! d[i - 1]! = false) ∧ Hid (j < hi → ltOf cf d[mid + m - 1 - j]! d[j]! = true) ∧ Aside (SWK enc k w0 blk off d wr))
  case atStart => first | exact ⟨lo, mid, rfl, rfl, Nat.le_refl _, by omega, by omega, by omega, (fun h => absurd h (by omega) : lo < lo → _), (fun h => absurd h (by omega) : mid < hi → _), S0⟩ | exact ⟨a, m, rfl, rfl, by omega, by omega, by omega, by omega, (fun h => absurd h (by omega) : lo < a → _), (fun h => absurd h (by omega) : m < hi → _), S0⟩
  case round =>
   clear S0
   obtain ⟨i, j, rfl, rfl, hai, hij, hjb, hkx, H1, H2, S1⟩ := hrel
   by_cases hlt : i < j
   ·have hltz : (i : Int) < (j : Int) := by omega
    obtain ⟨h, hh⟩ : ∃ h, h = (i + j) / 2 := ⟨_, rfl⟩
    have hhz : ((i : Int) + (j : Int)) / 2 = (h : Int) := by omega
    have hh1 : i ≤ h := by omega
    have hh2 : h < j := by omega
    clear hh
    obtain ⟨q, hq⟩ : ∃ q, q = mid + m - 1 - h := ⟨_, rfl⟩
    have hqz : (mid : Int) + (m : Int) - 1 - (h : Int) = (q : Int) := by omega
    have hqd : (q : Int) < (d.size : Int) := by omega
    have hqw : IntKind.i64.wrap (q : Int) = (q : Int) := by rw [IntKind.wrap_i64]; omega
    have HQ : Hid (q = mid + m - 1 - h) := hq
    clear hq
    have lx := fun n os => S1.out.ld R (by omega) P (q) (by omega) n os
    have ly := fun n os => S1.out.ld R (by omega) P (h) (by omega) n os
    have hcg := fun n os => S1.out.cmp HC.out (by omega) d[q]! d[h]! n os
    have CLS : Hid (∀ n os, SWK enc k w0 blk off d (grow (wr.drewN n) os)) := fun n os => S1.out.grown n os
    generalize hxe : d[q]! = x at lx hcg
    generalize hye : d[h]! = y at ly hcg
    have HXE : Hid (d[q]! = x) := hxe
    have HYE : Hid (d[h]! = y) := hye
    clear hxe hye S1
    have hhd : (h : Int) < (d.size : Int) := by omega
    by_cases hlv : cf x y < 0
    ·have N2 : Hid (h < hi → ltOf cf d[mid + m - 1 - h]! d[h]! = true) := fun _ => by rw [← HQ.out, HXE.out, HYE.out]; exact lt_yesC hlv
     have hdv : decide (cf x y < 0) = true := decide_eq_true hlv
     go_wp2_with fail
     go_quiet_grown (first | (go_at_fn g; refine Calls.grown_of (hcg _ _)))
     have S2 : Aside (SWK enc k w0 blk off d (grow (wr.drewN nq) osq)) := CLS.out nq osq
     clear CLS lx ly hcg
     generalize grow (wr.drewN nq) osq = w2 at S2 ⊢
     go_wp2
     go_roundg (h - i)
     case measure => omega
     case rel => exact ⟨i, h, rfl, rfl, hai, hh1, by omega, Nat.le_refl _, H1, N2, S2⟩
    ·have N1 : Hid (lo < h + 1 → ltOf cf d[mid + m - (h + 1)]! d[h + 1 - 1]! = false) := fun _ => by
      have e : mid + m - (h + 1) = mid + m - 1 - h := by omega
      rw [e, Nat.add_sub_cancel, ← HQ.out, HXE.out, HYE.out]; exact lt_noC hlv
     have hdv : decide (cf x y < 0) = false := decide_eq_false hlv
     go_wp2_with fail
     go_quiet_grown (first | (go_at_fn g; refine Calls.grown_of (hcg _ _)))
     have S2 : Aside (SWK enc k w0 blk off d (grow (wr.drewN nq) osq)) := CLS.out nq osq
     clear CLS lx ly hcg
     generalize grow (wr.drewN nq) osq = w2 at S2 ⊢
     go_wp2
     go_roundg (j - (h + 1))
     case measure => omega
     case rel => exact ⟨h + 1, j, by go_num, rfl, by omega, by omega, hjb, Nat.le_refl _, N1, H2, S2⟩
   ·have hji : j = i := by omega
    subst hji
    have hnot : ¬ (j : Int) < (j : Int) := by omega
    have FIN' := FIN.out j hai hjb H1.out H2.out
    obtain ⟨en, hen⟩ : ∃ en, en = mid + m - j := ⟨_, rfl⟩
    have hez : (mid : Int) + (m : Int) - (j : Int) = (en : Int) := by omega
    rw [← hen] at FIN'
    have e1 : en + j ≤ mid + m := by omega
    have e2 : mid + m ≤ en + j := by omega
    have FIN : Hid (∀ d1 d2 d3, PermIn j en d d1 → Rot d d1 j m en → MergedS (ltOf cf) a j mid d1 d2 → MergedS (ltOf cf) mid en b d2 d3 → MergedS (ltOf cf) a m b d d3) := FIN'
    clear hen FIN' H1 H2 hij
    have Z0 : Aside (SZC enc k w0 blk off d.size d wr) := ⟨rfl, S1.out⟩
    have R1 : Hid (¬ (j < m ∧ m < en) → Rot d d j m en ∧ PermIn j en d d) := fun h => by
     refine ⟨?_, permIn_refl d j en⟩
     by_cases h' : j < m
     ·obtain rfl : en = m := by omega
      exact Rot.refl_right d j en
     ·obtain rfl : j = m := by omega
      exact Rot.refl_left d j en
    have R2 : Hid (∀ d' : Array α, ¬ (a < j ∧ j < mid) → MergedS (ltOf cf) a j mid d' d') := fun d' h => MergedS.none _ d' (by omega) (by omega) (by omega)
    have R3 : Hid (∀ d' : Array α, ¬ (mid < en ∧ en < b) → MergedS (ltOf cf) mid en b d' d') := fun d' h => MergedS.none _ d' (by omega) (by omega) (by omega)
    have hRot : Aside (j < m → m < en → Calls P 122 #[.slice (some ⟨blk, off, none⟩) d.size cap, .int .i64 j, .int .i64 m, .int .i64 en, .func (.func g) #[] cb] wr fun e w' => e = .returned (.tuple #[]) ∧ ∃ d1, Rot d d1 j m en ∧ PermIn j en d d1 ∧ SZC enc k w0 blk off d.size d1 w') := fun h1 h2 => (rotate_anyC X enc (.func (.func g) #[] cb) blk off cap j m en d0 d w0 wr R hs S1.out h1 h2 (by omega) (by omega)).mono fun e w' ⟨he, d1, hr, hp, S⟩ => ⟨he, d1, hr, hp, hp.1, S⟩
    have hM1 : Aside (a < j → j < mid → ∀ d1 w1, SZC enc k w0 blk off d.size d1 w1 → Calls P 110 #[.slice (some ⟨blk, off, none⟩) d.size cap, .int .i64 a, .int .i64 j, .int .i64 mid, .func (.func g) #[] cb] w1 fun e w' => e = .returned (.tuple #[]) ∧ ∃ d', MergedS (ltOf cf) a j mid d1 d' ∧ SZC enc k w0 blk off d.size d' w') := fun h1 h2 d1 w1 z => HI.out a j mid d1 w1 (by omega) h1 h2 (by omega) z
    have hM2 : Aside (mid < en → en < b → ∀ d1 w1, SZC enc k w0 blk off d.size d1 w1 → Calls P 110 #[.slice (some ⟨blk, off, none⟩) d.size cap, .int .i64 mid, .int .i64 en, .int .i64 b, .func (.func g) #[] cb] w1 fun e w' => e = .returned (.tuple #[]) ∧ ∃ d', MergedS (ltOf cf) mid en b d1 d' ∧ SZC enc k w0 blk off d.size d' w') := fun h1 h2 d1 w1 z => HI.out mid en b d1 w1 (by omega) h1 h2 (by omega) z
    clear HI S1
    have A1 : ((j : Int) < (m : Int) ∧ j < m) ∨ (¬ (j : Int) < (m : Int) ∧ ¬ j < m) := by omega
    have A2 : ((m : Int) < (en : Int) ∧ (j : Int) < (mid : Int) ∧ m < en ∧ j < mid) ∨ (¬ (m : Int) < (en : Int) ∧ ¬ (j : Int) < (mid : Int) ∧ ¬ m < en ∧ ¬ j < mid) := by omega
    have A3 : ((a : Int) < (j : Int) ∧ a < j) ∨ (¬ (a : Int) < (j : Int) ∧ ¬ a < j) := by omega
    have A4 : ((en : Int) < (b : Int) ∧ en < b) ∨ (¬ (en : Int) < (b : Int) ∧ ¬ en < b) := by omega
    have A5 : ((mid : Int) < (en : Int) ∧ mid < en) ∨ (¬ (mid : Int) < (en : Int) ∧ ¬ mid < en) := by omega
    rcases A1 with ⟨c1, k1⟩ | ⟨c1, k1⟩ <;> rcases A2 with ⟨c2, c2', k2, k2'⟩ | ⟨c2, c2', k2, k2'⟩ <;> rcases A3 with ⟨c3, k3⟩ | ⟨c3, k3⟩ <;> rcases A4 with ⟨c4, k4⟩ | ⟨c4, k4⟩ <;> rcases A5 with ⟨c5, k5⟩ | ⟨c5, k5⟩ <;> first | (exfalso; omega) | skip
    all_goals
     go_wp2_with (first
      | (go_at_fn 122; refine (hRot.out k1 k2).mono ?_; rintro e w1 ⟨rfl, d1, hr1, hp1, Z1⟩; clear hRot)
      | (go_at_call_of 110 (Value.int .i64 (a : Int)); (first | refine (hM1.out k3 k2' _ _ Z1).mono ?_ | refine (hM1.out k3 k2' _ _ Z0.out).mono ?_); rintro e w2 ⟨rfl, d2, hm1, Z2⟩; clear hM1)
      | (go_at_call_of 110 (Value.int .i64 (b : Int)); (first | refine (hM2.out k5 k4 _ _ Z2).mono ?_ | refine (hM2.out k5 k4 _ _ Z1).mono ?_ | refine (hM2.out k5 k4 _ _ Z0.out).mono ?_); rintro e w3 ⟨rfl, d3, hm2, Z3⟩; clear hM2))
     go_end0
     first | (exact ⟨rfl, d3, FIN.out d1 d2 d3 hp1 hr1 hm1 hm2, Z3⟩) | (exact ⟨rfl, d2, FIN.out d1 d2 d2 hp1 hr1 hm1 (R3.out d2 (by omega)), Z2⟩) | (exact ⟨rfl, d3, FIN.out d1 d1 d3 hp1 hr1 (R2.out d1 (by omega)) hm2, Z3⟩) | (exact ⟨rfl, d1, FIN.out d1 d1 d1 hp1 hr1 (R2.out d1 (by omega)) (R3.out d1 (by omega)), Z1⟩) | (exact ⟨rfl, d3, FIN.out d d2 d3 (R1.out (by omega)).2 (R1.out (by omega)).1 hm1 hm2, Z3⟩) | (exact ⟨rfl, d2, FIN.out d d2 d2 (R1.out (by omega)).2 (R1.out (by omega)).1 hm1 (R3.out d2 (by omega)), Z2⟩) | (exact ⟨rfl, d3, FIN.out d d d3 (R1.out (by omega)).2 (R1.out (by omega)).1 (R2.out d (by omega)) hm2, Z3⟩) | (exact ⟨rfl, d, FIN.out d d d (R1.out (by omega)).2 (R1.out (by omega)).1 (R2.out d (by omega)) (R3.out d (by omega)), Z0.out⟩)
end Go.Proofs.YtppodkkefegbkaaGreatDoor
namespace Go.Proofs.YtppodkkefegbkaaGreatDoor
open Go.Shelf Go.RowKit Go.Lib Go.Sort
variable {P : Program} {k : Nat} {α : Type} [Inhabited α]
theorem sym_midBC (X : StC P k) (enc : α → List Value) (cf : α → α → Int) (g : Nat) (cb : Array Value) (blk off cap : Nat) (d0 : Array α) (w0 : World)
  (eg : ∀ args w, (callFunc g args).run P w = .ok (.enter g args) w) (hC : CmpLays P g cb enc k cf blk off d0.size w0) (R : RowK enc k w0 blk off d0) (N : Nat)
  (ih : ∀ (a m b : Nat) (d : Array α) (w : World), b - a < N → a < m → m < b → b ≤ d0.size → SZC enc k w0 blk off d0.size d w → Calls P 110 #[.slice (some ⟨blk, off, none⟩) d0.size cap, .int .i64 a, .int .i64 m, .int .i64 b, .func (.func g) #[] cb] w fun e w' => e = .returned (.tuple #[]) ∧ ∃ d', MergedS (ltOf cf) a m b d d' ∧ SZC enc k w0 blk off d0.size d' w')
  (a m b : Nat) (d : Array α) (w : World) (hN : b - a < N + 1) (hs : d0.size = d.size) (S : SWK enc k w0 blk off d w) (ham : a + 1 < m) (hmb : m + 1 < b) (hb : b ≤ d.size) (hsz : d.size < 2305843009213693952) (mid lo hi : Nat) (hmid : mid = (a + b) / 2) (hc : (mid < m ∧ lo = mid + m - b ∧ hi = mid) ∨ (m ≤ mid ∧ lo = a ∧ hi = m)) (hcase : m ≤ mid ∧ ¬ (mid : Int) < (m : Int) ∧ lo ≤ a ∧ hi ≤ m ∧ m ≤ hi) :
  Calls P 110 #[.slice (some ⟨blk, off, none⟩) d.size cap, .int .i64 a, .int .i64 m, .int .i64 b, .func (.func g) #[] cb] w fun e w' => e = .returned (.tuple #[]) ∧ ∃ d', MergedS (ltOf cf) a m b d d' ∧ SZC enc k w0 blk off d0.size d' w' := by
 have mixed := X.mixed; have t0 := X.t0; have a0 := X.a0; have z0 := X.z0; have v0 := X.v0; have t3 := X.t3; have a3 := X.a3; have z3 := X.z3; have v3 := X.v3; have t4 := X.t4; have a4 := X.a4; have z4 := X.z4; have v4 := X.v4; have tU := X.tU; have aU := X.aU; have zU := X.zU; have vU := X.vU; have tL := X.tL; have aL := X.aL; have zL := X.zL; have vL := X.vL; have tF := X.tF; have aF := X.aF; have zF := X.zF; have vF := X.vF; have aE := X.aE; have zE := X.zE
 have HC : Aside (CmpLays P g cb enc k cf blk off d0.size w0) := hC
 clear hC
 have eR : ∀ args w, (callFunc 122 args).run P w = .ok (.enter 122 args) w := enters_of X.fR (by kernel_rfl) rfl
 have eM : ∀ args w, (callFunc 110 args).run P w = .ok (.enter 110 args) w := enters_of X.fM (by kernel_rfl) rfl
 rw [hs] at ih
 have HI : Aside (∀ (a m b : Nat) (d' : Array α) (w : World), b - a < N → a < m → m < b → b ≤ d.size → SZC enc k w0 blk off d.size d' w → Calls P 110 #[.slice (some ⟨blk, off, none⟩) d.size cap, .int .i64 a, .int .i64 m, .int .i64 b, .func (.func g) #[] cb] w fun e w' => e = .returned (.tuple #[]) ∧ ∃ d'', MergedS (ltOf cf) a m b d' d'' ∧ SZC enc k w0 blk off d.size d'' w') := ih
 clear ih
 rw [hs]
 have S0 : Aside (SWK enc k w0 blk off d w) := S
 clear S
 have hma : (((m : Int) - (a : Int)) == 1) = false := by simp; omega
 have hbz : (((b : Int) - (m : Int)) == 1) = false := by simp; omega
 have hmidz : ((a : Int) + (b : Int)) / 2 = (mid : Int) := by omega
 have HMID : Hid (mid = (a + b) / 2) := hmid
 have g1 : 2 * mid ≤ a + b := by omega
 have g2 : a + b ≤ 2 * mid + 1 := by omega
 clear hmid
 have HCC : Hid ((mid < m ∧ lo = mid + m - b ∧ hi = mid) ∨ (m ≤ mid ∧ lo = a ∧ hi = m)) := hc
 have b1 : a ≤ lo := by omega
 have b2 : lo ≤ hi := by omega
 have b3 : hi ≤ m := by omega
 have b4 : hi ≤ mid := by omega
 have b5 : mid + m ≤ b + lo := by omega
 have FIN : Hid (∀ start, lo ≤ start → start ≤ hi → (lo < start → ltOf cf d[mid + m - start]! d[start - 1]! = false) → (start < hi → ltOf cf d[mid + m - 1 - start]! d[start]! = true) → ∀ d1 d2 d3, PermIn start (mid + m - start) d d1 → Rot d d1 start m (mid + m - start) → MergedS (ltOf cf) a start mid d1 d2 → MergedS (ltOf cf) mid (mid + m - start) b d2 d3 → MergedS (ltOf cf) a m b d d3) := fun start h1 h2 h3 h4 d1 d2 d3 p r m1 m2 => mergedS_mid hb (by omega) (by omega) HMID.out HCC.out h1 h2 h3 h4 p r m1 m2
 clear HCC hc HMID
 obtain ⟨q1, q2, q3, q4, q5⟩ := hcase
 all_goals
  go_enter X.fM, Tryz.ntmps110
  go_wp2
  go_loopg [20, 21] (b - a) (fun kx s20 s21 wr => ∃ (i j : Nat), s20 = .int .i64 i ∧ s21 = .int .i64 j ∧ lo ≤ i ∧ i ≤ j ∧ j ≤ hi ∧ j - i ≤ kx ∧ Hid (lo < i → ltOf cf d[mid + m - i]! d[i - 1]! = false) ∧ Hid (j < hi → ltOf cf d[mid + m - 1 - j]! d[j]! = true) ∧ Aside (SWK enc k w0 blk off d wr))
  case atStart => first | exact ⟨lo, mid, rfl, rfl, Nat.le_refl _, by omega, by omega, by omega, (fun h => absurd h (by omega) : lo < lo → _), (fun h => absurd h (by omega) : mid < hi → _), S0⟩ | exact ⟨a, m, rfl, rfl, by omega, by omega, by omega, by omega, (fun h => absurd h (by omega) : lo < a → _), (fun h => absurd h (by omega) : m < hi → _), S0⟩
  case round =>
   clear S0
   obtain ⟨i, j, rfl, rfl, hai, hij, hjb, hkx, H1, H2, S1⟩ := hrel
   by_cases hlt : i < j
   ·have hltz : (i : Int) < (j : Int) := by omega
    obtain ⟨h, hh⟩ : ∃ h, h = (i + j) / 2 := ⟨_, rfl⟩
    have hhz : ((i : Int) + (j : Int)) / 2 = (h : Int) := by omega
    have hh1 : i ≤ h := by omega
    have hh2 : h < j := by omega
    clear hh
    obtain ⟨q, hq⟩ : ∃ q, q = mid + m - 1 - h := ⟨_, rfl⟩
    have hqz : (mid : Int) + (m : Int) - 1 - (h : Int) = (q : Int) := by omega
    have hqd : (q : Int) < (d.size : Int) := by omega
    have hqw : IntKind.i64.wrap (q : Int) = (q : Int) := by rw [IntKind.wrap_i64]; omega
    have HQ : Hid (q = mid + m - 1 - h) := hq
    clear hq
    have lx := fun n os => S1.out.ld R (by omega) P (q) (by omega) n os
    have ly := fun n os => S1.out.ld R (by omega) P (h) (by omega) n os
    have hcg := fun n os => S1.out.cmp HC.out (by omega) d[q]! d[h]! n os
    have CLS : Hid (∀ n os, SWK enc k w0 blk off d (grow (wr.drewN n) os)) := fun n os => S1.out.grown n os
    generalize hxe : d[q]! = x at lx hcg
    generalize hye : d[h]! = y at ly hcg
    have HXE : Hid (d[q]! = x) := hxe
    have HYE : Hid (d[h]! = y) := hye
    clear hxe hye S1
    have hhd : (h : Int) < (d.size : Int) := by omega
    by_cases hlv : cf x y < 0
    ·have N2 : Hid (h < hi → ltOf cf d[mid + m - 1 - h]! d[h]! = true) := fun _ => by rw [← HQ.out, HXE.out, HYE.out]; exact lt_yesC hlv
     have hdv : decide (cf x y < 0) = true := decide_eq_true hlv
     go_wp2_with fail
     go_quiet_grown (first | (go_at_fn g; refine Calls.grown_of (hcg _ _)))
     have S2 : Aside (SWK enc k w0 blk off d (grow (wr.drewN nq) osq)) := CLS.out nq osq
     clear CLS lx ly hcg
     generalize grow (wr.drewN nq) osq = w2 at S2 ⊢
     go_wp2
     go_roundg (h - i)
     case measure => omega
     case rel => exact ⟨i, h, rfl, rfl, hai, hh1, by omega, Nat.le_refl _, H1, N2, S2⟩
    ·have N1 : Hid (lo < h + 1 → ltOf cf d[mid + m - (h + 1)]! d[h + 1 - 1]! = false) := fun _ => by
      have e : mid + m - (h + 1) = mid + m - 1 - h := by omega
      rw [e, Nat.add_sub_cancel, ← HQ.out, HXE.out, HYE.out]; exact lt_noC hlv
     have hdv : decide (cf x y < 0) = false := decide_eq_false hlv
     go_wp2_with fail
     go_quiet_grown (first | (go_at_fn g; refine Calls.grown_of (hcg _ _)))
     have S2 : Aside (SWK enc k w0 blk off d (grow (wr.drewN nq) osq)) := CLS.out nq osq
     clear CLS lx ly hcg
     generalize grow (wr.drewN nq) osq = w2 at S2 ⊢
     go_wp2
     go_roundg (j - (h + 1))
     case measure => omega
     case rel => exact ⟨h + 1, j, by go_num, rfl, by omega, by omega, hjb, Nat.le_refl _, N1, H2, S2⟩
   ·have hji : j = i := by omega
    subst hji
    have hnot : ¬ (j : Int) < (j : Int) := by omega
    have FIN' := FIN.out j hai hjb H1.out H2.out
    obtain ⟨en, hen⟩ : ∃ en, en = mid + m - j := ⟨_, rfl⟩
    have hez : (mid : Int) + (m : Int) - (j : Int) = (en : Int) := by omega
    rw [← hen] at FIN'
    have e1 : en + j ≤ mid + m := by omega
    have e2 : mid + m ≤ en + j := by omega
    have FIN : Hid (∀ d1 d2 d3, PermIn j en d d1 → Rot d d1 j m en → MergedS (ltOf cf) a j mid d1 d2 → MergedS (ltOf cf) mid en b d2 d3 → MergedS (ltOf cf) a m b d d3) := FIN'
    clear hen FIN' H1 H2 hij
    have Z0 : Aside (SZC enc k w0 blk off d.size d wr) := ⟨rfl, S1.out⟩
    have R1 : Hid (¬ (j < m ∧ m < en) → Rot d d j m en ∧ PermIn j en d d) := fun h => by
     refine ⟨?_, permIn_refl d j en⟩
     by_cases h' : j < m
     ·obtain rfl : en = m := by omega
      exact Rot.refl_right d j en
     ·obtain rfl : j = m := by omega
      exact Rot.refl_left d j en
    have R2 : Hid (∀ d' : Array α, ¬ (a < j ∧ j < mid) → MergedS (ltOf cf) a j mid d' d') := fun d' h => MergedS.none _ d' (by omega) (by omega) (by omega)
    have R3 : Hid (∀ d' : Array α, ¬ (mid < en ∧ en < b) → MergedS (ltOf cf) mid en b d' d') := fun d' h => MergedS.none _ d' (by omega) (by omega) (by omega)
    have hRot : Aside (j < m → m < en → Calls P 122 #[.slice (some ⟨blk, off, none⟩) d.size cap, .int .i64 j, .int .i64 m, .int .i64 en, .func (.func g) #[] cb] wr fun e w' => e = .returned (.tuple #[]) ∧ ∃ d1, Rot d d1 j m en ∧ PermIn j en d d1 ∧ SZC enc k w0 blk off d.size d1 w') := fun h1 h2 => (rotate_anyC X enc (.func (.func g) #[] cb) blk off cap j m en d0 d w0 wr R hs S1.out h1 h2 (by omega) (by omega)).mono fun e w' ⟨he, d1, hr, hp, S⟩ => ⟨he, d1, hr, hp, hp.1, S⟩
    have hM1 : Aside (a < j → j < mid → ∀ d1 w1, SZC enc k w0 blk off d.size d1 w1 → Calls P 110 #[.slice (some ⟨blk, off, none⟩) d.size cap, .int .i64 a, .int .i64 j, .int .i64 mid, .func (.func g) #[] cb] w1 fun e w' => e = .returned (.tuple #[]) ∧ ∃ d', MergedS (ltOf cf) a j mid d1 d' ∧ SZC enc k w0 blk off d.size d' w') := fun h1 h2 d1 w1 z => HI.out a j mid d1 w1 (by omega) h1 h2 (by omega) z
    have hM2 : Aside (mid < en → en < b → ∀ d1 w1, SZC enc k w0 blk off d.size d1 w1 → Calls P 110 #[.slice (some ⟨blk, off, none⟩) d.size cap, .int .i64 mid, .int .i64 en, .int .i64 b, .func (.func g) #[] cb] w1 fun e w' => e = .returned (.tuple #[]) ∧ ∃ d', MergedS (ltOf cf) mid en b d1 d' ∧ SZC enc k w0 blk off d.size d' w') := fun h1 h2 d1 w1 z => HI.out mid en b d1 w1 (by omega) h1 h2 (by omega) z
    clear HI S1
    have A1 : ((j : Int) < (m : Int) ∧ j < m) ∨ (¬ (j : Int) < (m : Int) ∧ ¬ j < m) := by omega
    have A2 : ((m : Int) < (en : Int) ∧ (j : Int) < (mid : Int) ∧ m < en ∧ j < mid) ∨ (¬ (m : Int) < (en : Int) ∧ ¬ (j : Int) < (mid : Int) ∧ ¬ m < en ∧ ¬ j < mid) := by omega
    have A3 : ((a : Int) < (j : Int) ∧ a < j) ∨ (¬ (a : Int) < (j : Int) ∧ ¬ a < j) := by omega
    have A4 : ((en : Int) < (b : Int) ∧ en < b) ∨ (¬ (en : Int) < (b : Int) ∧ ¬ en < b) := by omega
    have A5 : ((mid : Int) < (en : Int) ∧ mid < en) ∨ (¬ (mid : Int) < (en : Int) ∧ ¬ mid < en) := by omega
    rcases A1 with ⟨c1, k1⟩ | ⟨c1, k1⟩ <;> rcases A2 with ⟨c2, c2', k2, k2'⟩ | ⟨c2, c2', k2, k2'⟩ <;> rcases A3 with ⟨c3, k3⟩ | ⟨c3, k3⟩ <;> rcases A4 with ⟨c4, k4⟩ | ⟨c4, k4⟩ <;> rcases A5 with ⟨c5, k5⟩ | ⟨c5, k5⟩ <;> first | (exfalso; omega) | skip
    all_goals
     go_wp2_with (first
      | (go_at_fn 122; refine (hRot.out k1 k2).mono ?_; rintro e w1 ⟨rfl, d1, hr1, hp1, Z1⟩; clear hRot)
      | (go_at_call_of 110 (Value.int .i64 (a : Int)); (first | refine (hM1.out k3 k2' _ _ Z1).mono ?_ | refine (hM1.out k3 k2' _ _ Z0.out).mono ?_); rintro e w2 ⟨rfl, d2, hm1, Z2⟩; clear hM1)
      | (go_at_call_of 110 (Value.int .i64 (b : Int)); (first | refine (hM2.out k5 k4 _ _ Z2).mono ?_ | refine (hM2.out k5 k4 _ _ Z1).mono ?_ | refine (hM2.out k5 k4 _ _ Z0.out).mono ?_); rintro e w3 ⟨rfl, d3, hm2, Z3⟩; clear hM2))
     go_end0
     first | (exact ⟨rfl, d3, FIN.out d1 d2 d3 hp1 hr1 hm1 hm2, Z3⟩) | (exact ⟨rfl, d2, FIN.out d1 d2 d2 hp1 hr1 hm1 (R3.out d2 (by omega)), Z2⟩) | (exact ⟨rfl, d3, FIN.out d1 d1 d3 hp1 hr1 (R2.out d1 (by omega)) hm2, Z3⟩) | (exact ⟨rfl, d1, FIN.out d1 d1 d1 hp1 hr1 (R2.out d1 (by omega)) (R3.out d1 (by omega)), Z1⟩) | (exact ⟨rfl, d3, FIN.out d d2 d3 (R1.out (by omega)).2 (R1.out (by omega)).1 hm1 hm2, Z3⟩) | (exact ⟨rfl, d2, FIN.out d d2 d2 (R1.out (by omega)).2 (R1.out (by omega)).1 hm1 (R3.out d2 (by omega)), Z2⟩) | (exact ⟨rfl, d3, FIN.out d d d3 (R1.out (by omega)).2 (R1.out (by omega)).1 (R2.out d (by omega)) hm2, Z3⟩) | (exact ⟨rfl, d, FIN.out d d d (R1.out (by omega)).2 (R1.out (by omega)).1 (R2.out d (by omega)) (R3.out d (by omega)), Z0.out⟩)
end Go.Proofs.YtppodkkefegbkaaGreatDoor
namespace Go.Proofs.YtppodkkefegbkaaGreatDoor
open Go.Shelf Go.RowKit Go.Lib Go.Sort
variable {P : Program} {k : Nat} {α : Type} [Inhabited α]
theorem sym_anyC (X : StC P k) (enc : α → List Value) (cf : α → α → Int) (g : Nat) (cb : Array Value) (hO : SWO (ltOf cf)) (blk off cap : Nat) (d0 : Array α) (w0 : World)
  (eg : ∀ args w, (callFunc g args).run P w = .ok (.enter g args) w) (hC : CmpLays P g cb enc k cf blk off d0.size w0) (R : RowK enc k w0 blk off d0) (hsz : d0.size < 2305843009213693952) :
  ∀ (N a m b : Nat) (d : Array α) (w : World), b - a < N → a < m → m < b → b ≤ d0.size → SZC enc k w0 blk off d0.size d w → Calls P 110 #[.slice (some ⟨blk, off, none⟩) d0.size cap, .int .i64 a, .int .i64 m, .int .i64 b, .func (.func g) #[] cb] w fun e w' => e = .returned (.tuple #[]) ∧ ∃ d', MergedS (ltOf cf) a m b d d' ∧ SZC enc k w0 blk off d0.size d' w' := by
 intro N
 induction N with
 | zero => intro a m b d w h; exact absurd h (Nat.not_lt_zero _)
 | succ N ih =>
  intro a m b d w hN ham hmb hb hZ
  have hs : d0.size = d.size := hZ.1.symm
  by_cases h1 : m ≤ a + 1
  ·have h := sym_leftC X enc cf g cb blk off cap d0 w0 eg hC R a m b d w hs hZ.2 ham h1 hmb (by omega) (by omega)
   rw [← hs] at h
   exact h.mono fun e w' ⟨he, d', hm, hS⟩ => ⟨he, d', hm, by rw [hs]; exact (hm.own hO).1.1, hS⟩
  ·by_cases h2 : b ≤ m + 1
   ·have h := sym_rightC X enc cf g cb blk off cap d0 w0 eg hC R a m b d w hs hZ.2 (by omega) hmb h2 (by omega) (by omega)
    rw [← hs] at h
    exact h.mono fun e w' ⟨he, d', hm, hS⟩ => ⟨he, d', hm, by rw [hs]; exact (hm.own hO).1.1, hS⟩
   ·have h : Calls P 110 #[.slice (some ⟨blk, off, none⟩) d.size cap, .int .i64 a, .int .i64 m, .int .i64 b, .func (.func g) #[] cb] w fun e w' => e = .returned (.tuple #[]) ∧ ∃ d', MergedS (ltOf cf) a m b d d' ∧ SZC enc k w0 blk off d0.size d' w' := by
     by_cases h3 : (a + b) / 2 < m
     ·exact sym_midAC X enc cf g cb blk off cap d0 w0 eg hC R N ih a m b d w hN hs hZ.2 (by omega) (by omega) (by omega) (by omega) ((a + b) / 2) ((a + b) / 2 + m - b) ((a + b) / 2) rfl (Or.inl ⟨h3, rfl, rfl⟩) (by omega)
     ·exact sym_midBC X enc cf g cb blk off cap d0 w0 eg hC R N ih a m b d w hN hs hZ.2 (by omega) (by omega) (by omega) (by omega) ((a + b) / 2) a m rfl (Or.inr ⟨by omega, rfl, rfl⟩) (by omega)
    rw [← hs] at h
    exact h
end Go.Proofs.YtppodkkefegbkaaGreatDoor
