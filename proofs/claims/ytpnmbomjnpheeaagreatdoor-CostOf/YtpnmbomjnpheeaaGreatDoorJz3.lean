/-
 What the reference's Byte, below, Decimal, NumberOf and IsName answer, and the program's goods.Name, over whatever world.
-/
import Derived.Test.YtpnmbomjnpheeaaGreatDoorJz1
import Derived.Sort.LotA
import Derived.Lib.Small
import Derived.Deep.RegionHeld3
import Derived.Sort.Walk0
import Derived.Laws.Cover1
import Derived.OwnWalk
import Derived.Deep.AppendLies
import Derived.WalkKit
import Derived.Lib.SmallJoins
import Derived.Test.YtpnmbomjnpheeaaGreatDoorKBuild
import Derived.Test.YtpnmbomjnpheeaaGreatDoorShelf
import Derived.Test.YtpnmbomjnpheeaaGreatDoorRows
import Derived.LaidLaws
import Derived.LaidHandle
import Derived.Stop.LaidErr
set_option maxRecDepth 100000
set_option maxHeartbeats 16000000
namespace Go.Proofs.YtpnmbomjnpheeaaGreatDoor
open Go.RowKit Go.Lib Go.Sort
theorem refByte0 (n : Int) (h0 : 0 ≤ n) (h1 : n ≤ 255) (w : World) :
  Calls Tryz.prog 74 #[.int .i64 n] w fun e w' => e = .returned (.string ⟨#[UInt8.ofNat n.toNat]⟩) ∧ Below w.heap.size w w' := by
 have hc : (convert 116 9 (.slice (some ⟨w.heap.size, 0, none⟩) 1 1)).run Tryz.prog (w.alloc (.cells #[.int .u8 n] 5)) = .ok (.string ⟨#[UInt8.ofNat n.toNat]⟩) (w.alloc (.cells #[.int .u8 n] 5)) :=
  run_convert_bytes_arg (w.alloc (.cells #[.int .u8 n] 5)) 116 5 Tryz.underlying116 Tryz.underlying5 w.heap.size 0 1 1 [n] rfl (fun i hi => by
   obtain rfl : i = 0 := by omega
   simp) 9 Tryz.underlying9
 go_enter Tryz.func74, Tryz.ntmps74
 go_wp2
 go_ret
 exact ⟨rfl, ((Below.refl _ _).alloc (Nat.le_refl _) _)⟩
theorem refByte (n : Int) (k : Nat) (hk : n = k) (h : k ≤ 255) (w : World) :
  Calls Tryz.prog 74 #[.int .i64 n] w fun e w' => e = .returned (.string ⟨#[UInt8.ofNat k]⟩) ∧ Below w.heap.size w w' := by
 subst hk
 exact refByte0 k (by omega) (by omega) w
theorem refBelow : ∀ (m : Nat), m ≤ 9223372036854775807 → ∀ (n : Int), n = -(m : Int) → ∀ (w : World),
  Calls Tryz.prog 50 #[.int .i64 n] w fun e w' => e = .returned (.string ⟨(decDigits m).toArray⟩) ∧ Below w.heap.size w w' := by
 intro m
 induction m using Nat.strongRecOn with
 | _ m ih =>
  intro hm n hn w
  subst hn
  by_cases h : m < 10
  ·rw [decDigits_one h]
   go_enter Tryz.func50, Tryz.ntmps50
   go_wp2_with (go_at_call 74; refine (refByte _ (48 + m) (by omega) (by omega) _).mono ?_; rintro e w1 ⟨rfl, hb⟩)
   go_ret
   exact ⟨by simp, hb⟩
  ·have hi := ih (m / 10) (by omega) (by omega)
   have HI : Hid (∀ (n : Int), n = -((m / 10 : Nat) : Int) → ∀ (w : World), Calls Tryz.prog 50 #[.int .i64 n] w fun e w' => e = .returned (.string ⟨(decDigits (m / 10)).toArray⟩) ∧ Below w.heap.size w w') := hi
   clear ih hi
   have hl := decDigits_length (m / 10)
   have hl2 := nDigits_le 19 (m / 10) (by decide) (by omega)
   have hl3 : (decDigits (m / 10)).length ≤ 19 := by omega
   clear hl hl2
   rw [decDigits, dif_neg h, ← str_append]
   go_enter Tryz.func50, Tryz.ntmps50
   go_wp2_with (first | (go_at_call 50; refine (HI.out _ (by omega) _).mono ?_; rintro e w1 ⟨rfl, hb⟩) | (go_at_call 74; refine (refByte _ (48 + m % 10) (by omega) (by omega) _).mono ?_; rintro e w2 ⟨rfl, hb2⟩))
   go_ret
   exact ⟨by simp, hb.trans (hb2.mono hb.size)⟩
theorem refDecimal (n : Int) (h0 : 0 ≤ n) (h1 : n ≤ 9223372036854775807) (w : World) :
  Calls Tryz.prog 29 #[.int .i64 n] w fun e w' => e = .returned (.string ⟨(decDigits n.toNat).toArray⟩) ∧ Below w.heap.size w w' := by
 go_enter Tryz.func29, Tryz.ntmps29
 go_wp2_with (go_at_call 50; refine (refBelow n.toNat (by omega) _ (by omega) _).mono ?_; rintro e w1 ⟨rfl, hb⟩)
 go_ret
 exact ⟨rfl, hb⟩
def nameB (c : UInt8) : Bool := (decide (97 ≤ c.toNat) && decide (c.toNat ≤ 122)) || (decide (48 ≤ c.toNat) && decide (c.toNat ≤ 57))
def isName (l : List UInt8) : Bool := l.all nameB && (decide (1 ≤ l.length) && decide (l.length ≤ 8))
theorem name_false_of (s : ByteArray) (k : Nat) (h : k < s.size) (hd : nameB s[k] = false) : s.data.toList.all nameB = false := by
 rw [List.all_eq_false]
 refine ⟨s[k], ?_, by rw [hd]; decide⟩
 have := List.getElem_mem (l := s.data.toList) (n := k) (by rw [size_len]; exact h)
 exact this
theorem name_bad (s : ByteArray) (k : Nat) (w : World) (h : k < s.size) (hd : nameB s[k] = false) : Ending.returned (.bool false) = Ending.returned (.bool (isName s.data.toList)) ∧ w = w := by
 unfold isName
 rw [name_false_of s k h hd]; exact ⟨rfl, rfl⟩
theorem name_good (s : ByteArray) (k : Nat) (w : World) (h : s.size ≤ k) (ha : (s.data.toList.take k).all nameB = true) : Ending.returned (.bool (decide (1 ≤ s.size) && decide (s.size ≤ 8))) = Ending.returned (.bool (isName s.data.toList)) ∧ w = w := by
 rw [List.take_of_length_le (by rw [size_len]; exact h)] at ha
 unfold isName
 rw [ha, size_len]; exact ⟨rfl, rfl⟩
theorem nameByte_any (c : Int) (w : World) (h0 : 0 ≤ c) (h1 : c ≤ 255) :
  Calls Tryz.prog 115 #[.int .u8 c] w fun e w' => e = .returned (.bool ((decide (97 ≤ c) && decide (c ≤ 122)) || (decide (48 ≤ c) && decide (c ≤ 57)))) ∧ w' = w := by
 by_cases a : 97 ≤ c
 ·by_cases b : c ≤ 122
  ·go_enter Tryz.func115, Tryz.ntmps115
   go_wp2
   go_ret
   exact ⟨by simp [a, b], rfl⟩
  ·go_enter Tryz.func115, Tryz.ntmps115
   go_wp2
   go_ret
   exact ⟨by simp <;> omega, rfl⟩
 ·by_cases b : 48 ≤ c
  ·by_cases d : c ≤ 57
   ·go_enter Tryz.func115, Tryz.ntmps115
    go_wp2
    go_ret
    exact ⟨by simp <;> omega, rfl⟩
   ·go_enter Tryz.func115, Tryz.ntmps115
    go_wp2
    go_ret
    exact ⟨by simp <;> omega, rfl⟩
  ·go_enter Tryz.func115, Tryz.ntmps115
   go_wp2
   go_ret
   exact ⟨by simp <;> omega, rfl⟩
theorem nameByte_yes (c : Int) (w : World) (h0 : 0 ≤ c) (h1 : c ≤ 255) (h : (97 ≤ c ∧ c ≤ 122) ∨ (48 ≤ c ∧ c ≤ 57)) :
  Calls Tryz.prog 115 #[.int .u8 c] w fun e w' => e = .returned (.bool true) ∧ w' = w := by
 refine (nameByte_any c w h0 h1).mono ?_
 rintro e w' ⟨rfl, rfl⟩
 exact ⟨by simp <;> omega, rfl⟩
theorem nameByte_no (c : Int) (w : World) (h0 : 0 ≤ c) (h1 : c ≤ 255) (h : ¬ ((97 ≤ c ∧ c ≤ 122) ∨ (48 ≤ c ∧ c ≤ 57))) :
  Calls Tryz.prog 115 #[.int .u8 c] w fun e w' => e = .returned (.bool false) ∧ w' = w := by
 refine (nameByte_any c w h0 h1).mono ?_
 rintro e w' ⟨rfl, rfl⟩
 exact ⟨by simp <;> omega, rfl⟩
theorem name_any (s : ByteArray) (w : World) (hz : s.size ≤ maxLen) :
  Calls Tryz.prog 105 #[.string s] w fun e w' => e = .returned (.bool (isName s.data.toList)) ∧ w' = w := by
 unfold maxLen at hz
 by_cases h0 : 1 ≤ s.size
 ·have he := isEmpty_of s h0
  have he' : ¬ s.toList = [] := by rw [← List.isEmpty_iff, he]; decide
  by_cases h1 : s.size ≤ 8
  ·go_enter Tryz.func105, Tryz.ntmps105
   go_wp2
   go_loop [13] (fun i => ∃ k : Nat, k ≤ s.size ∧ i = .int .i64 k ∧ (s.data.toList.take k).all nameB = true) (fun i => s.size - (RowKit.intOf i).toNat)
   case atStart => exact ⟨0, Nat.zero_le _, rfl, rfl⟩
   case round =>
    obtain ⟨k, hk, rfl, hall⟩ := hrel
    by_cases hlt : k < s.size
    ·have HS : Hid (s.data.toList.take (k + 1) = s.data.toList.take k ++ [s[k]]) := take_snoc s k hlt
     have HA : Hid ((s.data.toList.take k).all nameB = true) := hall
     clear hall
     have hb : 0 ≤ (s[k].toNat : Int) ∧ (s[k].toNat : Int) ≤ 255 := by have := s[k].toNat_lt; omega
     by_cases hc : (97 ≤ (s[k].toNat : Int) ∧ (s[k].toNat : Int) ≤ 122) ∨ (48 ≤ (s[k].toNat : Int) ∧ (s[k].toNat : Int) ≤ 57)
     ·have hy := nameByte_yes s[k].toNat w hb.1 hb.2 hc
      have HC : Hid (nameB s[k] = true) := by show _ = _; unfold nameB; simp; omega
      clear hc
      go_wp2_with (go_at_call 115; refine hy.mono ?_; rintro e w1 ⟨rfl, rfl⟩)
      go_round
      case rel => exact ⟨k + 1, by omega, by go_num, by rw [HS.out, List.all_append, HA.out]; simp [HC.out]⟩
      case measure => simp [RowKit.intOf]; omega
     ·have hy := nameByte_no s[k].toNat w hb.1 hb.2 hc
      have HC : Hid (nameB s[k] = false) := by show _ = _; unfold nameB; simp; omega
      clear hc
      go_wp2_with (go_at_call 115; refine hy.mono ?_; rintro e w1 ⟨rfl, rfl⟩)
      go_ret
      exact name_bad s k _ hlt HC.out
    ·go_wp2
     go_ret
     have := name_good s k w (by omega) hall
     rw [decide_eq_true h0, decide_eq_true h1] at this
     exact this
  ·go_enter Tryz.func105, Tryz.ntmps105
   go_wp2
   go_ret
   refine ⟨?_, rfl⟩
   unfold isName
   rw [size_len, decide_eq_false h1]; simp
 ·have hs : s.data.toList = [] := List.eq_nil_of_length_eq_zero (by rw [size_len]; omega)
  have he : s = ByteArray.empty := isEmpty_nil hs
  clear hs
  subst he
  go_enter Tryz.func105, Tryz.ntmps105
  go_wp2
  go_ret
  exact ⟨rfl, rfl⟩
theorem isName_any (s : ByteArray) (w : World) (hz : s.size ≤ maxLen) :
  Calls Tryz.prog 58 #[.string s] w fun e w' => e = .returned (.bool (isName s.data.toList)) ∧ w' = w := by
 unfold maxLen at hz
 go_enter Tryz.func58, Tryz.ntmps58
 go_wp2
 go_loop [3] (fun i => ∃ k : Nat, k ≤ s.size ∧ i = .int .i64 k ∧ (s.data.toList.take k).all nameB = true) (fun i => s.size - (RowKit.intOf i).toNat)
 case atStart => exact ⟨0, Nat.zero_le _, rfl, rfl⟩
 case round =>
  obtain ⟨k, hk, rfl, hall⟩ := hrel
  by_cases hlt : k < s.size
  ·have HS : Hid (s.data.toList.take (k + 1) = s.data.toList.take k ++ [s[k]]) := take_snoc s k hlt
   have HA : Hid ((s.data.toList.take k).all nameB = true) := hall
   clear hall
   have hb : 0 ≤ (s[k].toNat : Int) ∧ (s[k].toNat : Int) ≤ 255 := by have := s[k].toNat_lt; omega
   have hcases : (s[k].toNat : Int) < 48 ∨ (48 ≤ (s[k].toNat : Int) ∧ (s[k].toNat : Int) ≤ 57) ∨ (57 < (s[k].toNat : Int) ∧ (s[k].toNat : Int) < 97) ∨ (97 ≤ (s[k].toNat : Int) ∧ (s[k].toNat : Int) ≤ 122) ∨ 122 < (s[k].toNat : Int) := by omega
   rcases hcases with hc | hc | hc | hc | hc
   ·have HC : Hid (nameB s[k] = false) := by show _ = _; unfold nameB; simp; omega
    go_wp2
    go_ret
    exact name_bad s k _ hlt HC.out
   ·have HC : Hid (nameB s[k] = true) := by show _ = _; unfold nameB; simp; omega
    obtain ⟨c1, c2⟩ := hc
    go_wp2
    go_round
    case rel => exact ⟨k + 1, by omega, by go_num, by rw [HS.out, List.all_append, HA.out]; simp [HC.out]⟩
    case measure => simp [RowKit.intOf]; omega
   ·have HC : Hid (nameB s[k] = false) := by show _ = _; unfold nameB; simp; omega
    obtain ⟨c1, c2⟩ := hc
    have b1 : decide ((s[k].toNat : Int) ≤ 57) = false := decide_eq_false (by omega)
    go_wp2
    go_ret
    exact name_bad s k _ hlt HC.out
   ·have HC : Hid (nameB s[k] = true) := by show _ = _; unfold nameB; simp; omega
    obtain ⟨c1, c2⟩ := hc
    go_wp2
    go_round
    case rel => exact ⟨k + 1, by omega, by go_num, by rw [HS.out, List.all_append, HA.out]; simp [HC.out]⟩
    case measure => simp [RowKit.intOf]; omega
   ·have HC : Hid (nameB s[k] = false) := by show _ = _; unfold nameB; simp; omega
    have b1 : decide ((s[k].toNat : Int) ≤ 57) = false := decide_eq_false (by omega)
    have b2 : decide ((s[k].toNat : Int) ≤ 122) = false := decide_eq_false (by omega)
    go_wp2
    go_ret
    exact name_bad s k _ hlt HC.out
  ·have HA : Hid ((s.data.toList.take k).all nameB = true) := hall
   clear hall
   by_cases h1 : 1 ≤ s.size
   ·go_wp2
    go_ret
    have := name_good s k w (by omega) HA.out
    rw [decide_eq_true h1] at this
    have e2 : decide ((s.size : Int) ≤ 8) = decide (s.size ≤ 8) := decide_eq_decide.2 (by omega)
    simpa [e2] using this
   ·go_wp2
    go_ret
    have := name_good s k w (by omega) HA.out
    rw [decide_eq_false h1] at this
    simpa using this
end Go.Proofs.YtpnmbomjnpheeaaGreatDoor
namespace Go.Proofs.YtpnmbomjnpheeaaGreatDoor
open Go.Lib Go.Sort
abbrev Pl := ByteArray × Int × Int
def zLt (a b : ByteArray) : Bool := decide (a.data.toList < b.data.toList)
def cmpZ (a b : ByteArray) : Int := if zLt a b then -1 else if zLt b a then 1 else 0
def or3 (a b c : Int) : Int := if a = 0 then (if b = 0 then c else b) else a
def bays (r a b : Int) : Int := if r.tmod 2 = 0 then compareInt b a else compareInt a b
def cmpP (x y : Pl) : Int := or3 (cmpZ x.1 y.1) (compareInt x.2.1 y.2.1) (bays x.2.1 x.2.2 y.2.2)
def aheadP (x y : Pl) : Bool := decide (cmpP x y < 0)
theorem zLt_irrefl (a : ByteArray) : zLt a a = false := by unfold zLt; simp [List.lt_irrefl]
theorem zLt_asymm {a b : ByteArray} (h : zLt a b = true) : zLt b a = false := by
 unfold zLt at *; simp only [decide_eq_true_eq, decide_eq_false_iff_not] at *
 exact fun h' => List.lt_irrefl _ (List.lt_trans h h')
theorem zLt_trans {a b c : ByteArray} (h : zLt a b = true) (h' : zLt b c = true) : zLt a c = true := by
 unfold zLt at *; simp only [decide_eq_true_eq] at *
 exact List.lt_trans h h'
theorem zLt_total {a b : ByteArray} (h : zLt a b = false) (h' : zLt b a = false) : a = b := by
 unfold zLt at *; simp only [decide_eq_false_iff_not, List.not_lt] at *
 have e := List.le_antisymm h' h
 cases a; cases b; simp at e; simp [e]
theorem cmpZ_self (a : ByteArray) : cmpZ a a = 0 := by unfold cmpZ; simp [zLt_irrefl]
theorem cmpZ_cases (a b : ByteArray) : (zLt a b = true ∧ zLt b a = false ∧ a ≠ b ∧ cmpZ a b = -1) ∨ (zLt a b = false ∧ zLt b a = true ∧ a ≠ b ∧ cmpZ a b = 1) ∨ (zLt a b = false ∧ zLt b a = false ∧ a = b ∧ cmpZ a b = 0) := by
 cases h1 : zLt a b with
 | true =>
  have h2 := zLt_asymm h1
  refine Or.inl ⟨rfl, h2, ?_, by unfold cmpZ; simp [h1]⟩
  rintro rfl; rw [zLt_irrefl] at h1; cases h1
 | false =>
  cases h2 : zLt b a with
  | true =>
   refine Or.inr (Or.inl ⟨rfl, rfl, ?_, by unfold cmpZ; simp [h1, h2]⟩)
   rintro rfl; rw [zLt_irrefl] at h2; cases h2
  | false => exact Or.inr (Or.inr ⟨rfl, rfl, zLt_total h1 h2, by unfold cmpZ; simp [h1, h2]⟩)
theorem cmpI_cases (a b : Int) : (a < b ∧ compareInt a b = -1) ∨ (b < a ∧ compareInt a b = 1) ∨ (a = b ∧ compareInt a b = 0) := by
 unfold compareInt
 rcases Int.lt_trichotomy a b with h | h | h
 ·exact Or.inl ⟨h, by rw [if_pos h]⟩
 ·exact Or.inr (Or.inr ⟨h, by subst h; simp⟩)
 ·exact Or.inr (Or.inl ⟨h, by rw [if_neg (by omega), if_pos h]⟩)
def aheadW (x y : Pl) : Prop := zLt x.1 y.1 = true ∨ (x.1 = y.1 ∧ (x.2.1 < y.2.1 ∨ (x.2.1 = y.2.1 ∧ ((x.2.1.tmod 2 = 0 ∧ y.2.2 < x.2.2) ∨ (x.2.1.tmod 2 ≠ 0 ∧ x.2.2 < y.2.2)))))
theorem aheadP_iff (x y : Pl) : aheadP x y = true ↔ aheadW x y := by
 obtain ⟨a, r, b⟩ := x
 obtain ⟨a', r', b'⟩ := y
 unfold aheadP aheadW cmpP or3 bays
 simp only [decide_eq_true_eq]
 rcases cmpZ_cases a a' with ⟨h1, h2, h3, h4⟩ | ⟨h1, h2, h3, h4⟩ | ⟨h1, h2, h3, h4⟩
 ·rw [h4, h1]; simp
 ·rw [h4, h1]; simp [h3]
 ·rw [h4, h1]
  subst h3
  rcases cmpI_cases r r' with ⟨k1, k2⟩ | ⟨k1, k2⟩ | ⟨k1, k2⟩
  ·rw [k2]; simp [k1]
  ·rw [k2]; simp; omega
  ·rw [k2]; subst k1
   by_cases hp : r.tmod 2 = 0
   ·rcases cmpI_cases b' b with ⟨m1, m2⟩ | ⟨m1, m2⟩ | ⟨m1, m2⟩ <;> simp [hp, m2] <;> omega
   ·rcases cmpI_cases b b' with ⟨m1, m2⟩ | ⟨m1, m2⟩ | ⟨m1, m2⟩ <;> simp [hp, m2] <;> omega
theorem aheadW_irrefl (x : Pl) : ¬ aheadW x x := by
 unfold aheadW; rw [zLt_irrefl]; simp
theorem aheadW_trans {x y z : Pl} (h : aheadW x y) (h' : aheadW y z) : aheadW x z := by
 obtain ⟨a, r, b⟩ := x
 obtain ⟨a', r', b'⟩ := y
 obtain ⟨a'', r'', b''⟩ := z
 unfold aheadW at *
 simp only at *
 rcases h with h | ⟨rfl, h⟩
 ·rcases h' with h' | ⟨rfl, h'⟩
  ·exact Or.inl (zLt_trans h h')
  ·exact Or.inl h
 ·rcases h' with h' | ⟨rfl, h'⟩
  ·exact Or.inl h'
  ·refine Or.inr ⟨rfl, ?_⟩
   rcases h with h | ⟨rfl, h⟩
   ·rcases h' with h' | ⟨rfl, h'⟩
    ·exact Or.inl (by omega)
    ·exact Or.inl h
   ·rcases h' with h' | ⟨rfl, h'⟩
    ·exact Or.inl h'
    ·refine Or.inr ⟨rfl, ?_⟩
     rcases h with ⟨p, h⟩ | ⟨p, h⟩ <;> rcases h' with ⟨p', h'⟩ | ⟨p', h'⟩
     ·exact Or.inl ⟨p, by omega⟩
     ·exact absurd p p'
     ·exact absurd p' p
     ·exact Or.inr ⟨p, by omega⟩
theorem aheadW_total (x y : Pl) : aheadW x y ∨ aheadW y x ∨ x = y := by
 obtain ⟨a, r, b⟩ := x
 obtain ⟨a', r', b'⟩ := y
 unfold aheadW
 simp only
 rcases cmpZ_cases a a' with ⟨h1, h2, h3, h4⟩ | ⟨h1, h2, h3, h4⟩ | ⟨h1, h2, h3, h4⟩
 ·exact Or.inl (Or.inl h1)
 ·exact Or.inr (Or.inl (Or.inl h2))
 ·subst h3
  rcases Int.lt_trichotomy r r' with k | k | k
  ·exact Or.inl (Or.inr ⟨rfl, Or.inl k⟩)
  ·subst k
   by_cases hp : r.tmod 2 = 0
   ·rcases Int.lt_trichotomy b b' with m | m | m
    ·exact Or.inr (Or.inl (Or.inr ⟨rfl, Or.inr ⟨rfl, Or.inl ⟨hp, m⟩⟩⟩))
    ·subst m; exact Or.inr (Or.inr rfl)
    ·exact Or.inl (Or.inr ⟨rfl, Or.inr ⟨rfl, Or.inl ⟨hp, m⟩⟩⟩)
   ·rcases Int.lt_trichotomy b b' with m | m | m
    ·exact Or.inl (Or.inr ⟨rfl, Or.inr ⟨rfl, Or.inr ⟨hp, m⟩⟩⟩)
    ·subst m; exact Or.inr (Or.inr rfl)
    ·exact Or.inr (Or.inl (Or.inr ⟨rfl, Or.inr ⟨rfl, Or.inr ⟨hp, m⟩⟩⟩))
  ·exact Or.inr (Or.inl (Or.inr ⟨rfl, Or.inl k⟩))
def well (r b : Int) : Bool := decide (1 ≤ r) && decide (r ≤ 20) && (decide (1 ≤ b) && decide (b ≤ 40))
def placeErr (x : Pl) : Nat := if isName x.1.data.toList then (if well x.2.1 x.2.2 then 0 else 2) else 5
theorem placeErr_le (x : Pl) : placeErr x ≤ 12 := by
 unfold placeErr; split
 ·split <;> decide
 ·decide
def okP (x : Pl) : Bool := isName x.1.data.toList && well x.2.1 x.2.2
theorem okP_err (x : Pl) : okP x = true ↔ placeErr x = 0 := by
 unfold okP placeErr
 cases isName x.1.data.toList <;> cases well x.2.1 x.2.2 <;> simp
theorem okP_bounds {x : Pl} (h : okP x = true) : isName x.1.data.toList = true ∧ 1 ≤ x.2.1 ∧ x.2.1 ≤ 20 ∧ 1 ≤ x.2.2 ∧ x.2.2 ≤ 40 := by
 unfold okP well at h
 simp at h
 exact ⟨h.1, h.2.1.1, h.2.1.2, h.2.2.1, h.2.2.2⟩
end Go.Proofs.YtpnmbomjnpheeaaGreatDoor
namespace Go.Proofs.YtpnmbomjnpheeaaGreatDoor
open Go.RowKit Go.Lib Go.Sort
theorem less_eq (x y : ByteArray) : Op.bytesLess x.toList y.toList = zLt x y := by
 rw [bytesLess_eq, Lib.toList_data, Lib.toList_data]; rfl
theorem same_eq (x y : ByteArray) : (x.toList == y.toList) = decide (x = y) := by
 rw [Lib.toList_data, Lib.toList_data, Bool.eq_iff_iff]
 simp only [beq_iff_eq, decide_eq_true_eq]
 constructor
 ·intro h; cases x; cases y; simp at h; simp [h]
 ·rintro rfl; rfl
def or2 (a b : Int) : Int := if a = 0 then b else a
def stp (c : UInt8) (st : List (List UInt8) × List UInt8) (b : UInt8) : List (List UInt8) × List UInt8 := if b = c then (st.1 ++ [st.2], []) else (st.1, st.2 ++ [b])
def sp (c : UInt8) (l : List UInt8) : List (List UInt8) × List UInt8 := l.foldl (stp c) ([], [])
theorem Tryz.infoStr : (Tryz.prog.info? 9).map (fun i => (i.zero, i.size, i.bytes)) = some (some (.string ⟨#[]⟩), 1, 16) := by kernel_rfl
end Go.Proofs.YtpnmbomjnpheeaaGreatDoor
namespace Go.Proofs.YtpnmbomjnpheeaaGreatDoor
open Go.RowKit Go.Lib
abbrev ptrK (k : Nat) : Value := .pointer (some ⟨k, 0, none⟩)
abbrev nilP : Value := .pointer none
def hdY (ks : List Nat) (v : Value) : Value := match ks with
 | [] => v
 | k :: _ => ptrK k
def lastY (ks : List Nat) : Value := match ks.getLast? with
 | none => nilP
 | some k => ptrK k
theorem hdY_app (ks ks' : List Nat) (v : Value) : hdY (ks ++ ks') v = hdY ks (hdY ks' v) := by cases ks <;> rfl
theorem lastY_snoc (ks : List Nat) (k : Nat) : lastY (ks ++ [k]) = ptrK k := by unfold lastY; rw [List.getLast?_append]; simp
theorem lastY_cons2 (k k' : Nat) (ks : List Nat) : lastY (k :: k' :: ks) = lastY (k' :: ks) := by unfold lastY; rw [List.getLast?_cons_cons]
abbrev celY (x : Ly) (v : Value) : Obj := .cells #[.int .i64 x.1, .int .i64 x.2, v] 84 (0, 0)
def Lnk (w : World) : List Nat → List Ly → Value → Prop
 | [], [], _ => True
 | k :: ks, x :: m, v => w.heap[k]? = some (celY x (hdY ks v)) ∧ Lnk w ks m v
 | _, _, _ => False
theorem Lnk.len {w : World} : ∀ {ks : List Nat} {m : List Ly} {v : Value}, Lnk w ks m v → ks.length = m.length
 | [], [], _, _ => rfl
 | _ :: _, _ :: _, _, h => by rw [List.length_cons, List.length_cons, Lnk.len h.2]
theorem Lnk.of_blocks {w w' : World} : ∀ {ks : List Nat} {m : List Ly} {v : Value}, Lnk w ks m v → (∀ k ∈ ks, w'.heap[k]? = w.heap[k]?) → Lnk w' ks m v
 | [], [], _, _, _ => trivial
 | k :: _, _ :: _, _, h, hk => ⟨(hk k (List.mem_cons_self ..)).trans h.1, Lnk.of_blocks h.2 fun j hj => hk j (List.mem_cons_of_mem _ hj)⟩
theorem Lnk.lt {w : World} : ∀ {ks : List Nat} {m : List Ly} {v : Value}, Lnk w ks m v → ∀ k ∈ ks, k < w.heap.size
 | [], [], _, _, k, hk => by cases hk
 | j :: _, _ :: _, _, h, k, hk => by
  rcases List.mem_cons.1 hk with rfl | hk
  ·exact (Array.getElem?_eq_some_iff.1 h.1).1
  ·exact Lnk.lt h.2 k hk
theorem Lnk.app {w : World} : ∀ {ks : List Nat} {m : List Ly} {ks' : List Nat} {m' : List Ly} {v : Value}, Lnk w ks m (hdY ks' v) → Lnk w ks' m' v → Lnk w (ks ++ ks') (m ++ m') v
 | [], [], _, _, _, _, h => h
 | k :: ks, x :: m, ks', m', v, h, h' => by
  refine ⟨?_, Lnk.app h.2 h'⟩
  have e : hdY (ks ++ ks') v = hdY ks (hdY ks' v) := hdY_app ks ks' v
  show w.heap[k]? = some (celY x (hdY (ks ++ ks') v))
  rw [e]; exact h.1
theorem Lnk.part {w : World} : ∀ {m : List Ly} {ks : List Nat} {m' : List Ly} {v : Value}, Lnk w ks (m ++ m') v → ∃ k1 k2, ks = k1 ++ k2 ∧ Lnk w k1 m (hdY k2 v) ∧ Lnk w k2 m' v
 | [], ks, _, _, h => ⟨[], ks, rfl, trivial, h⟩
 | x :: m, [], _, _, h => absurd h (by intro h; exact h)
 | x :: m, k :: ks, m', v, h => by
  obtain ⟨k1, k2, rfl, h1, h2⟩ := Lnk.part (m := m) h.2
  exact ⟨k :: k1, k2, rfl, ⟨by rw [← hdY_app]; exact h.1, h1⟩, h2⟩
theorem Lnk.nil {w : World} {ks : List Nat} {v : Value} (h : Lnk w ks [] v) : ks = [] := List.eq_nil_of_length_eq_zero h.len
theorem Lnk.cons {w : World} {ks : List Nat} {x : Ly} {m : List Ly} {v : Value} (h : Lnk w ks (x :: m) v) : ∃ k ks', ks = k :: ks' ∧ w.heap[k]? = some (celY x (hdY ks' v)) ∧ Lnk w ks' m v := by
 cases ks with
 | nil => exact absurd h.len (by simp)
 | cons k ks => exact ⟨k, ks, rfl, h.1, h.2⟩
structure LyR (w : World) (B q : Nat) (ks : List Nat) (m : List Ly) (H : Int) : Prop where
 top : w.heap[q]? = some (.cells #[hdY ks nilP, lastY ks, .int .i64 H] 82 (0, 0))
 lnk : Lnk w ks m nilP
 nd : (q :: ks).Nodup
 lo : ∀ k ∈ q :: ks, B ≤ k
theorem LyR.lt {w : World} {B q : Nat} {ks : List Nat} {m : List Ly} {H : Int} (h : LyR w B q ks m H) : ∀ k ∈ q :: ks, k < w.heap.size := by
 intro k hk
 rcases List.mem_cons.1 hk with rfl | hk
 ·exact (Array.getElem?_eq_some_iff.1 h.top).1
 ·exact h.lnk.lt k hk
theorem LyR.of_blocks {w w' : World} {B q : Nat} {ks : List Nat} {m : List Ly} {H : Int} (h : LyR w B q ks m H) (hk : ∀ k ∈ q :: ks, w'.heap[k]? = w.heap[k]?) : LyR w' B q ks m H where
 top := (hk q (List.mem_cons_self ..)).trans h.top
 lnk := h.lnk.of_blocks fun k hk' => hk k (List.mem_cons_of_mem _ hk')
 nd := h.nd
 lo := h.lo
theorem LyR.below {w w' : World} {B q : Nat} {ks : List Nat} {m : List Ly} {H : Int} (h : LyR w B q ks m H) (hb : Below w.heap.size w w') : LyR w' B q ks m H := h.of_blocks fun k hk => hb.block k (h.lt k hk)
theorem LyR.off {w w' : World} {B q : Nat} {ks : List Nat} {m : List Ly} {H : Int} (h : LyR w B q ks m H) {y : List Nat} (hf : Off y w w') (hy : ∀ k ∈ q :: ks, k ∉ y) : LyR w' B q ks m H := h.of_blocks fun k hk => hf.block k (h.lt k hk) (hy k hk)
structure LyAt (w : World) (B q : Nat) (ks : List Nat) (m : List Ly) : Prop where
 r : LyR w B q ks m (hasY m)
 ok : LyOk m
theorem LyAt.below {w w' : World} {B q : Nat} {ks : List Nat} {m : List Ly} (h : LyAt w B q ks m) (hb : Below w.heap.size w w') : LyAt w' B q ks m := ⟨h.r.below hb, h.ok⟩
theorem LyAt.off {w w' : World} {B q : Nat} {ks : List Nat} {m : List Ly} (h : LyAt w B q ks m) {y : List Nat} (hf : Off y w w') (hy : ∀ k ∈ q :: ks, k ∉ y) : LyAt w' B q ks m := ⟨h.r.off hf hy, h.ok⟩
theorem cell_blk {w : World} {b : Nat} {c : Array Value} {T : TypeId} (h : w.heap[b]? = some (.cells c T (0, 0))) (i : Nat) : w.cell? ⟨b, i, none⟩ = c[i]? := by rw [cell_of_heap h]
theorem LyAt.new (w : World) (B : Nat) (hB : B ≤ w.heap.size) : LyAt (w.alloc (.cells #[nilP, nilP, .int .i64 0] 82)) B w.heap.size [] [] where
 r := ⟨heap_alloc_new w _, trivial, by simp, fun k hk => by rw [List.mem_singleton.1 hk]; exact hB⟩
 ok := LyOk.nil
def joinL : List ByteArray → List UInt8
 | [] => []
 | [x] => x.data.toList
 | x :: y :: m => x.data.toList ++ 32 :: joinL (y :: m)
theorem joinL_snoc : ∀ (m : List ByteArray) (x : ByteArray), joinL (m ++ [x]) = if m = [] then x.data.toList else joinL m ++ 32 :: x.data.toList
 | [], _ => rfl
 | [y], x => by simp [joinL]
 | y :: z :: m, x => by
  have ih := joinL_snoc (z :: m) x
  rw [if_neg (by simp)] at ih ⊢
  show y.data.toList ++ 32 :: joinL (z :: m ++ [x]) = y.data.toList ++ 32 :: joinL (z :: m) ++ 32 :: x.data.toList
  rw [ih]
  simp
theorem joinL_succ {xs : List ByteArray} {k : Nat} {x : ByteArray} (h : xs[k + 1]? = some x) : joinL (xs.take (k + 1 + 1)) = joinL (xs.take (k + 1)) ++ 32 :: x.data.toList := by
 have hlt := (List.getElem?_eq_some_iff.1 h).1
 rw [List.take_add_one, h]
 show joinL (xs.take (k + 1) ++ [x]) = _
 rw [joinL_snoc, if_neg]
 intro e
 have := congrArg List.length e
 rw [List.length_take, List.length_nil] at this
 omega
def lenJ (xs : List ByteArray) : Nat := (xs.map (·.size)).sum
theorem lenJ_succ {xs : List ByteArray} {k : Nat} {x : ByteArray} (h : xs[k]? = some x) : lenJ (xs.take (k + 1)) = lenJ (xs.take k) + x.size := by
 unfold lenJ
 rw [List.take_add_one, h]
 simp
theorem lenJ_bound : ∀ {xs : List ByteArray}, (∀ x ∈ xs, x.size ≤ 100) → lenJ xs ≤ 100 * xs.length
 | [], _ => Nat.le_refl _
 | x :: xs, h => by
  have h1 := h x (by simp)
  have h2 := lenJ_bound (xs := xs) fun y hy => h y (by simp [hy])
  unfold lenJ at *
  simp only [List.map_cons, List.sum_cons, List.length_cons]
  omega
theorem joinL_len : ∀ (xs : List ByteArray), (joinL xs).length ≤ lenJ xs + xs.length
 | [] => Nat.le_refl _
 | [x] => by unfold lenJ; simp [joinL]
 | x :: y :: m => by
  have ih := joinL_len (y :: m)
  have e : lenJ (x :: y :: m) = x.size + lenJ (y :: m) := by unfold lenJ; simp
  rw [e]
  show (x.data.toList ++ 32 :: joinL (y :: m)).length ≤ _
  rw [List.length_append, List.length_cons, size_len, List.length_cons]
  omega
theorem joinL_take {xs : List ByteArray} (h : ∀ x ∈ xs, x.size ≤ 100) (hn : xs.length ≤ 1000) (k : Nat) : (joinL (xs.take k)).length ≤ 101000 := by
 have h1 := joinL_len (xs.take k)
 have h2 := lenJ_bound (xs := xs.take k) fun x hx => h x (List.mem_of_mem_take hx)
 have h3 := List.length_take_le' k xs
 omega
theorem bld_of {b : Nat} {w : World} (h : BuilderAt 118 5 b b (.pointer (some ⟨b, 0, none⟩)) [] w) : Bld (b + 1) b [] w := by
 obtain ⟨_, v, h1, ⟨h2, h3⟩, h4⟩ := h
 refine ⟨Nat.lt_succ_self _, _, v, Or.inr rfl, h1, h2, ?_⟩
 rcases h3 with h3 | ⟨g, cap, cur, rfl, hg, r⟩
 ·exact Or.inl h3
 ·refine Or.inr ⟨g, cap, cur, rfl, ?_, r⟩
  have : g ≠ b := fun e => h4 (by rw [e]; rfl)
  omega
theorem bld_grow (n : Nat) (w : World) (hn : n ≤ 1000000) :
  Calls Tryz.prog 47 #[.pointer (some ⟨w.heap.size, 0, none⟩), .int .i64 n] (w.alloc (.cells #[.pointer none, .slice none 0 0] 118)) fun e w' => e = .returned (.tuple #[]) ∧ Bld (w.heap.size + 1) w.heap.size [] w' ∧ Below w.heap.size w w' :=
 (Tryz.Builder_Grow_fresh w.heap.size w.heap.size n _ (Nat.le_refl _) (heap_alloc_new w _) (by simp) (by omega)).mono fun e w' ⟨h1, h2, h3⟩ => ⟨h1, bld_of h2, ((Below.refl w.heap.size w).alloc (Nat.le_refl _) _).trans h3⟩
theorem join_many (bk c : Nat) (xs : List ByteArray) (w : World) (hc : ∀ j x, xs[j]? = some x → w.cell? ⟨bk, j, none⟩ = some (.string x)) (hbk : bk < w.heap.size) (h2 : 2 ≤ xs.length) (hN : xs.length ≤ 1000) (hcap : xs.length ≤ c) (hl : ∀ x ∈ xs, x.size ≤ 100) :
  Calls Tryz.prog 28 #[.slice (some ⟨bk, 0, none⟩) xs.length c, .string ⟨#[32]⟩] w fun e w' => e = .returned (.string ⟨(joinL xs).toArray⟩) ∧ Below w.heap.size w w' := by
 obtain ⟨x0, hx0⟩ : ∃ x, xs[0]? = some x := ⟨_, List.getElem?_eq_getElem (by omega)⟩
 have HX0 : Hid (xs[0]? = some x0) := hx0
 have HJ0 : Hid (joinL (xs.take 1) = x0.data.toList) := by
  show _ = _
  rw [List.take_add_one, hx0]; rfl
 have HC : Hid (∀ W, Below w.heap.size w W → ∀ j x, xs[j]? = some x → W.cell? ⟨bk, j, none⟩ = some (.string x)) := fun W hb j x hx => (hb.cell (p := ⟨bk, j, none⟩) hbk).trans (hc j x hx)
 have HL : Hid (∀ x ∈ xs, x.size ≤ 100) := hl
 have HT : Hid (∀ k, (joinL (xs.take k)).length ≤ 101000) := joinL_take hl hN
 have HB : Hid (∀ k, lenJ (xs.take k) ≤ 100000) := fun k => by
  have h1 := lenJ_bound (xs := xs.take k) fun x hx => hl x (List.mem_of_mem_take hx)
  have h3 := List.length_take_le' k xs
  omega
 obtain ⟨ln, hln⟩ : ∃ ln, ln = xs.length := ⟨_, rfl⟩
 have HLn : Hid (ln = xs.length) := hln
 rw [← hln] at h2 hN hcap ⊢
 have hdv : ¬ (9223372036854775807 / ((ln : Int) - 1) ≤ 1) := by
  have : 2 ≤ 9223372036854775807 / ((ln : Int) - 1) := Int.le_ediv_of_mul_le (by omega) (by omega)
  omega
 have hne0 : ((ln : Int) == 0) = false := beq_eq_false_iff_ne.2 (by omega)
 have hne1 : ((ln : Int) == 1) = false := beq_eq_false_iff_ne.2 (by omega)
 have hs1 : (⟨#[32]⟩ : ByteArray).size = 1 := rfl
 clear hc hl hx0 hln
 go_enter Tryz.func28, Tryz.ntmps28
 go_wp2_with fail
 go_loop [5, 41] (fun n i => ∃ k : Nat, k ≤ ln ∧ i = .int .i64 k ∧ n = .int .i64 ((ln : Int) - 1 + lenJ (xs.take k))) (fun _ i => ln - (RowKit.intOf i).toNat)
 case atStart => exact ⟨0, Nat.zero_le _, rfl, by simp [lenJ]⟩
 case round =>
  obtain ⟨k, hk, rfl, rfl⟩ := hrel
  by_cases hlt : k < ln
  ·obtain ⟨x, hx⟩ : ∃ x, xs[k]? = some x := ⟨_, List.getElem?_eq_getElem (by rw [← HLn.out]; exact hlt)⟩
   have c0 := HC.out w (Below.refl _ _) k x hx
   have hE := lenJ_succ hx
   have b1 := HB.out (k + 1)
   have b0 := HB.out k
   have HE : Hid (lenJ (xs.take (k + 1)) = lenJ (xs.take k) + x.size) := hE
   rw [hE] at b1
   generalize lenJ (xs.take k) = J at *
   clear hx hE
   go_wp2
   go_round
   case rel => exact ⟨k + 1, by omega, by go_num, by rw [HE.out]; congr 1; omega⟩
   case measure => simp [RowKit.intOf]; omega
  ·have hkn : k = ln := by omega
   subst hkn
   have e : xs.take k = xs := List.take_of_length_le (by rw [← HLn.out]; exact Nat.le_refl _)
   have b0 := HB.out k
   rw [e] at b0 ⊢
   obtain ⟨n, hn⟩ : ∃ n : Nat, (k : Int) - 1 + lenJ xs = n := ⟨k - 1 + lenJ xs, by omega⟩
   have hn2 : n ≤ 101000 := by omega
   rw [hn]
   have HG : Hid (Calls Tryz.prog 47 _ _ _) := bld_grow n w (by omega)
   have hz0 := HL.out x0 (List.mem_of_getElem? HX0.out)
   clear hn e b0
   go_wp2_with (first
    | (go_at_call 47; refine HG.out.mono ?_; rintro e w1 ⟨rfl, hB1, hb1⟩; have HB1 : Hid (Below w.heap.size w w1) := hb1; have c0 := HC.out w1 hb1 0 x0 HX0.out; have HW : Hid (Calls Tryz.prog 48 _ w1 _) := bld_write (w.heap.size + 1) w.heap.size [] x0 w1 hB1 (by simp; omega) (bld_lt hB1); clear hb1 hB1)
    | (go_at_call 48; refine HW.out.mono ?_; clear HW; rintro e w2 ⟨rfl, hB2, hb2⟩; have HB2 : Hid (Below w.heap.size w w2) := HB1.out.trans (hb2.below (Nat.le_succ _)); have HD2 : Hid (Bld (w.heap.size + 1) w.heap.size x0.data.toList w2) := (by rw [List.nil_append] at hB2; exact hB2); clear hB2 hb2))
   go_loopw [65] (fun i wr => ∃ j : Nat, j ≤ k - 1 ∧ i = .int .i64 j ∧ Bld (w.heap.size + 1) w.heap.size (joinL (xs.take (j + 1))) wr ∧ Below w.heap.size w wr) (fun i _ => k - 1 - (RowKit.intOf i).toNat)
   case atStart => exact ⟨0, Nat.zero_le _, rfl, by rw [Nat.zero_add, HJ0.out]; exact HD2.out, HB2.out⟩
   case round =>
    obtain ⟨j, hj, rfl, hd, hwr⟩ := hrel
    have HWr : Hid (Below w.heap.size w wr) := hwr
    by_cases hlt2 : j < k - 1
    ·obtain ⟨y, hy⟩ : ∃ y, xs[j + 1]? = some y := ⟨_, List.getElem?_eq_getElem (by rw [← HLn.out]; omega)⟩
     have c1 := HC.out wr hwr (j + 1) y hy
     rw [Nat.add_comm] at c1
     have hz1 := HL.out y (List.mem_of_getElem? hy)
     have HE : Hid (joinL (xs.take (j + 1 + 1)) = joinL (xs.take (j + 1)) ++ 32 :: y.data.toList) := joinL_succ hy
     have hT := HT.out (j + 1)
     generalize joinL (xs.take (j + 1)) = L at *
     have HW1 : Hid (Calls Tryz.prog 48 _ wr _) := bld_write (w.heap.size + 1) w.heap.size L ⟨#[32]⟩ wr hd (by rw [hs1]; omega) (bld_lt hd)
     have hT2 : (L ++ (⟨#[32]⟩ : ByteArray).data.toList).length + y.size ≤ 1000000 := by
      rw [List.length_append]
      show L.length + 1 + _ ≤ _
      omega
     clear hy hd hwr
     go_wp2_with (first
      | (go_at_call 48; refine HW1.out.mono ?_; clear HW1; rintro e w3 ⟨rfl, hB3, hb3⟩; have HB3 : Hid (Below w.heap.size w w3) := HWr.out.trans (hb3.below (Nat.le_succ _)); have HW2 : Hid (Calls Tryz.prog 48 _ w3 _) := bld_write (w.heap.size + 1) w.heap.size _ y w3 hB3 hT2 (bld_lt hB3); clear hB3 hb3)
      | (go_at_call 48; refine HW2.out.mono ?_; clear HW2; rintro e w4 ⟨rfl, hB4, hb4⟩; have HB4 : Hid (Below w.heap.size w w4) := HB3.out.trans (hb4.below (Nat.le_succ _)); have HD4 : Hid (Bld (w.heap.size + 1) w.heap.size (L ++ (⟨#[32]⟩ : ByteArray).data.toList ++ y.data.toList) w4) := hB4; clear hB4 hb4))
     go_roundw
     case rel => exact ⟨j + 1, by omega, by go_num, by rw [HE.out]; have := HD4.out; rw [List.append_assoc] at this; exact this, HB4.out⟩
     case measure => simp [RowKit.intOf]; omega
    ·have hjk : j + 1 = k := by omega
     have e : xs.take (j + 1) = xs := List.take_of_length_le (by rw [← HLn.out]; omega)
     rw [e] at hd
     have HS : Hid (Calls Tryz.prog 49 _ wr _) := bld_string _ _ _ wr hd
     clear hd hwr e
     go_wp2_with (go_at_call 49; refine HS.out.mono ?_; rintro e w5 ⟨rfl, hb5⟩)
     go_ret
     exact ⟨rfl, HWr.out.trans hb5⟩
theorem join_one (bk c : Nat) (x : ByteArray) (w : World) (hc : w.cell? ⟨bk, 0, none⟩ = some (.string x)) :
  Calls Tryz.prog 28 #[.slice (some ⟨bk, 0, none⟩) 1 c, .string ⟨#[32]⟩] w fun e w' => e = .returned (.string x) ∧ w' = w := by
 go_enter Tryz.func28, Tryz.ntmps28
 go_wp2
 go_ret
 exact ⟨rfl, rfl⟩
theorem join_none (p : Option Addr) (c : Nat) (w : World) :
  Calls Tryz.prog 28 #[.slice p 0 c, .string ⟨#[32]⟩] w fun e w' => e = .returned (.string ⟨#[]⟩) ∧ w' = w := by
 go_enter Tryz.func28, Tryz.ntmps28
 go_wp2
 go_ret
 exact ⟨rfl, rfl⟩
end Go.Proofs.YtpnmbomjnpheeaaGreatDoor
namespace Go.Proofs.YtpnmbomjnpheeaaGreatDoor
open Go.ChangeShapes Go.WideShapes Go.RowKit
theorem Tryz.own : ownKnob Tryz.prog.godebug = none := by kernel_rfl
theorem Tryz.cellsE : Tryz.prog.cellsOf 224 = 1 := by kernel_rfl
theorem Tryz.cellsS : Tryz.prog.cellsOf 9 = 1 := by kernel_rfl
theorem Tryz.star : "*" ++ "errors.errorString" = "*errors.errorString" := by decide
theorem Tryz.rowE (u : TypeId) (h : Tryz.prog.typeName? 3 u = some "*errors.errorString") : u = 206 :=
 typeName_ptr_named (nm := "errors.errorString") (by rw [Tryz.star]; kernel_rfl) (by kernel_rfl) (by decide) u (by rw [Tryz.star]; exact h)
abbrev errD (text : List UInt8) : DataW Unit := .iface "*errors.errorString" (.ptr (.agg [.lit (.string text)]))
def SentRow (W : World) (g : Nat) (a : Addr) : Prop := W.cell? ⟨g, 0, none⟩ = some (err a) ∧ ∃ c t, W.heap[a.block]? = some (.cells c t (0, 0))
theorem sents_of_laid {W : World} : ∀ (l : List (Nat × String × List UInt8)) (ps : List MemPlace), (∀ x ∈ l, Tryz.prog.globalNamed x.2.1 = some x.1 ∧ (Tryz.prog.globals[x.1]?).map (·.type) = some 27) →
  DataW.LaidVars Tryz.prog W (l.map fun x => (x.2.1, errD x.2.2)) ps → ps.Nodup →
  (∀ b off, MemPlace.cell b off ∈ ps → (∃ c t, W.heap[b]? = some (.cells c t (0, 0))) ∧ ∀ u v, W.cell? ⟨b, off, none⟩ = some (.iface u v) → Value.okWide Tryz.prog W .any 0 u v) →
  ∃ al : List Addr, al.length = l.length ∧ (∀ a ∈ al, MemPlace.cell a.block a.off ∈ ps) ∧ al.Nodup ∧ ∀ i, i < l.length → SentRow W (l.getD i (0, default, [])).1 (al.getD i ⟨0, 0, none⟩)
 | [], _, _, _, _, _ => ⟨[], rfl, (fun a h => by cases h), List.nodup_nil, fun i h => absurd h (Nat.not_lt_zero _)⟩
 | x :: l, ps, hx, hl, hnd, hrows => by
  obtain ⟨g, t, cs, fuel, p, q, hg, ht, hv, hd, hq, rfl⟩ := hl
  obtain ⟨hg', ht'⟩ := hx x (List.mem_cons_self ..)
  obtain rfl := Option.some.inj (hg'.symm.trans hg)
  obtain rfl := Option.some.inj (ht'.symm.trans ht)
  obtain ⟨cl⟩ := cs
  have ok : ∀ u v, cl = [.iface u v] → Value.okWide Tryz.prog W .any 0 u v := fun u v e => by
   subst e
   exact (hrows x.1 0 (by simp [MemPlace.row])).2 u v (by simpa using World.var?_cell hg hv 0)
  obtain ⟨a, s0, rfl, hc0, hs0, hz0, rfl⟩ := errorString_of_trod Tryz.underlying27 Tryz.rowE Tryz.underlying206 Tryz.underlying224 rfl rfl Tryz.underlying9 Tryz.cellsE Tryz.cellsS hd ok
  obtain ⟨al, hlen, hmem, hasnd, hrow⟩ := sents_of_laid l q (fun y hy => hx y (List.mem_cons_of_mem _ hy)) hq (List.Nodup.sublist (List.sublist_append_right _ _) hnd) (fun b off hm => hrows b off (List.mem_append_right _ hm))
  have hain : MemPlace.cell a.block a.off ∈ MemPlace.row ⟨x.1, 0, none⟩ (⟨[Value.iface 206 (Value.pointer (some a))]⟩ : Array Value).size ++ MemPlace.row a 1 := List.mem_append_right _ (by simp [MemPlace.row])
  refine ⟨a :: al, by simp [hlen], ?_, ?_, ?_⟩
  ·intro b hb
   rcases List.mem_cons.1 hb with rfl | hb
   ·exact List.mem_append_left _ hain
   ·exact List.mem_append_right _ (hmem b hb)
  ·refine List.nodup_cons.2 ⟨fun hin => ?_, hasnd⟩
   exact (List.nodup_append.1 hnd).2.2 _ hain _ (hmem a hin) rfl
  ·intro i hi
   rcases i with _ | i
   ·exact ⟨by simpa using World.var?_cell hg hv 0, (hrows a.block a.off (List.mem_append_left _ hain)).1⟩
   ·simpa using hrow i (by simpa using hi)
def sentList : List (Nat × String × List UInt8) := [
 (4, "tithebarn/api.ErrText", [116, 105, 116, 104, 101, 98, 97, 114, 110, 58, 32, 116, 101, 120, 116]),
 (2, "tithebarn/api.ErrBound", [116, 105, 116, 104, 101, 98, 97, 114, 110, 58, 32, 98, 111, 117, 110, 100]),
 (1, "tithebarn/api.ErrShape", [116, 105, 116, 104, 101, 98, 97, 114, 110, 58, 32, 115, 104, 97, 112, 101]),
 (5, "tithebarn/api.ErrKind", [116, 105, 116, 104, 101, 98, 97, 114, 110, 58, 32, 107, 105, 110, 100]),
 (6, "tithebarn/api.ErrName", [116, 105, 116, 104, 101, 98, 97, 114, 110, 58, 32, 110, 97, 109, 101]),
 (0, "tithebarn/api.ErrNone", [116, 105, 116, 104, 101, 98, 97, 114, 110, 58, 32, 110, 111, 110, 101]),
 (7, "tithebarn/api.ErrExist", [116, 105, 116, 104, 101, 98, 97, 114, 110, 58, 32, 101, 120, 105, 115, 116]),
 (8, "tithebarn/api.ErrFull", [116, 105, 116, 104, 101, 98, 97, 114, 110, 58, 32, 102, 117, 108, 108]),
 (3, "tithebarn/api.ErrShort", [116, 105, 116, 104, 101, 98, 97, 114, 110, 58, 32, 115, 104, 111, 114, 116]),
 (9, "tithebarn/api.ErrOrder", [116, 105, 116, 104, 101, 98, 97, 114, 110, 58, 32, 111, 114, 100, 101, 114]),
 (10, "tithebarn/api.ErrState", [116, 105, 116, 104, 101, 98, 97, 114, 110, 58, 32, 115, 116, 97, 116, 101]),
 (11, "tithebarn/api.ErrOff", [116, 105, 116, 104, 101, 98, 97, 114, 110, 58, 32, 111, 102, 102])]
theorem sentList_ok : (sentList.all fun x => decide (Tryz.prog.globalNamed x.2.1 = some x.1) && decide ((Tryz.prog.globals[x.1]?).map (·.type) = some 27)) = true := by kernel_rfl
theorem sent_of_laid {W : World} (h : laidMet Tryz.prog (sentList.map fun x => (x.2.1, errD x.2.2)) W) : ∃ s, Sent W s := by
 obtain ⟨ps, hl, hnd, hrows⟩ := h
 obtain ⟨al, hlen, _, hasnd, hrow⟩ := sents_of_laid sentList ps (fun x hx => by
  have := List.all_eq_true.1 sentList_ok x hx
  simpa using this) hl hnd hrows
 have h12 : al.length = 12 := hlen
 refine ⟨fun i => al.getD i ⟨0, 0, none⟩, ?_, fun i hi => (hrow i hi).2, ?_⟩
 ·intro i hi
  have hr := (hrow i hi).1
  rcases i with _ | _ | _ | _ | _ | _ | _ | _ | _ | _ | _ | _ | i
  all_goals first | exact hr | omega
 ·intro i j hi hj he
  have e1 : al.getD i ⟨0, 0, none⟩ = al[i] := by rw [List.getD_eq_getElem?_getD, List.getElem?_eq_getElem (by omega)]; rfl
  have e2 : al.getD j ⟨0, 0, none⟩ = al[j] := by rw [List.getD_eq_getElem?_getD, List.getElem?_eq_getElem (by omega)]; rfl
  simp only [e1, e2] at he
  exact (List.getElem_inj hasnd).1 he
theorem Tryz.etG : Tryz.prog.globalNamed "errors.errorType" = some 12 := by kernel_rfl
theorem Tryz.etR : (Tryz.prog.cutTypes.find? (·.1 == "internal/reflectlite.rtype")).map (·.2) = some 157 := by kernel_rfl
theorem Tryz.etOne : ((List.range 236).filter fun t => Tryz.prog.rowNamed t [101, 114, 114, 111, 114]) = [27] := by kernel_rfl
theorem Tryz.etSize : Tryz.prog.types.size = 236 := by kernel_rfl
theorem handle_of_laid {W : World} (h : handlesMet Tryz.prog [("errors.errorType", Rows.laid_errors_errorType)] W) : Handle W := by
 obtain ⟨name, u, ty, e1, e2, e3, e4, e5⟩ := h _ (List.mem_singleton.2 rfl)
 have en : name = [101, 114, 114, 111, 114] := (Option.some.inj e1).symm
 subst en
 obtain rfl := Option.some.inj (Tryz.etR.symm.trans e2)
 have hm : ty ∈ (List.range 236).filter fun t => Tryz.prog.rowNamed t [101, 114, 114, 111, 114] := List.mem_filter.2 ⟨List.mem_range.2 (by rw [← Tryz.etSize]; exact e3), e4⟩
 rw [Tryz.etOne] at hm
 obtain rfl := List.mem_singleton.1 hm
 have hh : typeHandle Tryz.prog 27 = .pointer (some ⟨17, 27, none⟩) := by kernel_rfl
 rw [hh] at e5
 unfold Handle
 simpa using World.var?_cell Tryz.etG e5 0
end Go.Proofs.YtpnmbomjnpheeaaGreatDoor
