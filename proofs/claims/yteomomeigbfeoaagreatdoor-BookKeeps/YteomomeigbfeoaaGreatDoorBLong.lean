/-
 What the laws' LongEntries answers of entries that were handed in; nothing old is turned.
-/
import Derived.Test.YteomomeigbfeoaaGreatDoorJz13
import Derived.Test.YteomomeigbfeoaaGreatDoorJz33
set_option maxRecDepth 100000
set_option maxHeartbeats 16000000
namespace Go.Proofs.YteomomeigbfeoaaGreatDoor
open Go.RowKit Go.Lib Go.Sort
def longs (l : List En) : Bool := l.any longE
theorem longs_yes {l : List En} {k : Nat} {e : En} (h : l[k]? = some e) (he : longE e = true) : longs l = true := List.any_eq_true.2 ⟨e, List.mem_of_getElem? h, he⟩
theorem longs_no {l : List En} (h : ∀ e ∈ l, longE e = false) : longs l = false := by
 unfold longs
 rw [List.any_eq_false]
 intro e he
 rw [h e he]; decide
theorem takeE_next {l : List En} {k : Nat} {x : En} {P : En → Prop} (hl : l[k]? = some x) (h : ∀ y ∈ l.take k, P y) (h1 : P x) : ∀ y ∈ l.take (k + 1), P y := by
 obtain ⟨hk, e⟩ := List.getElem?_eq_some_iff.1 hl
 rw [List.take_succ_eq_append_getElem hk, e]
 intro y hy
 rcases List.mem_append.1 hy with hy | hy
 ·exact h y hy
 ·obtain rfl : y = x := by simpa using hy
  exact h1
theorem longs_many (ad : Option Addr) (n cap : Nat) (most : Int) (w : World) (h : most < (n : Int)) :
  Calls Tryz.prog 9 #[.slice ad n cap, .int .i64 most] w fun r w' => r = .returned (.int .i64 1) ∧ w' = w := by
 go_enter Tryz.func9, Tryz.ntmps9
 go_wp2
 go_ret
 exact ⟨rfl, rfl⟩
theorem longs_none (ad : Option Addr) (cap : Nat) (most : Int) (w : World) (h : 0 ≤ most) :
  Calls Tryz.prog 9 #[.slice ad 0 cap, .int .i64 most] w fun r w' => r = .returned (.int .i64 0) ∧ w' = w := by
 go_enter Tryz.func9, Tryz.ntmps9
 go_wp2
 refine wp_loop_rounds 1 ?_
 rw [rounds_succ]
 go_wp2
 go_ret
 exact ⟨rfl, rfl⟩
theorem longs_some (l : List En) (bq off cap : Nat) (most : Int) (w : World) (h : Ents w bq off l) (hz : ∀ e ∈ l, SzE e) (hn : (l.length : Int) ≤ most) (hm : most ≤ 1000) :
  Calls Tryz.prog 9 #[.slice (some ⟨bq, off, none⟩) l.length cap, .int .i64 most] w fun r w' => r = .returned (.int .i64 (if longs l then 1 else 0)) ∧ Below w.heap.size w w' := by
 have HE : Hid (Ents w bq off l) := h
 have HZ : Hid (∀ e ∈ l, SzE e) := hz
 generalize hln : l.length = ln at *
 have HN : Hid (ln = l.length) := hln.symm
 clear h hz hln
 generalize hR : (if longs l = true then (1 : Int) else 0) = R at *
 have HR : Hid ((if longs l = true then (1 : Int) else 0) = R) := hR
 clear hR
 go_enter Tryz.func9, Tryz.ntmps9
 go_wp2
 go_loopw [5] (fun i wr => ∃ k : Nat, k ≤ ln ∧ i = .int .i64 k ∧ Below w.heap.size w wr ∧ ∀ e ∈ l.take k, longE e = false) (fun i _ => ln - (RowKit.intOf i).toNat)
 case atStart => exact ⟨0, Nat.zero_le _, rfl, Below.refl _ _, by simp⟩
 case round =>
  obtain ⟨k, hk, rfl, hwr, hno⟩ := hrel
  have HNo : Hid (∀ e ∈ l.take k, longE e = false) := hno
  clear hno
  by_cases hlt : k < ln
  ·have hkm : k < l.length := by rw [← HN.out]; exact hlt
   obtain ⟨e, he⟩ : ∃ e, l[k]? = some e := ⟨_, List.getElem?_eq_getElem hkm⟩
   obtain ⟨c0, c1, c2, c3, c4, c5, c6, c7, c8, c9, c10, c11, c12, c13⟩ := (HE.out.below HE.out.lt hwr).at_ k e he
   have hL := long_any e wr (HZ.out e (List.mem_of_getElem? he))
   have HX : Hid (l[k]? = some e) := he
   clear he hkm
   cases hle : longE e with
   | true =>
    rw [hle, if_pos rfl] at hL
    have H1 : Hid (R = 1) := by show _ = _; rw [← HR.out, if_pos (longs_yes HX.out hle)]
    clear hle HX
    obtain ⟨ak, ⟨agc, agp⟩, ⟨ali, alc, alu, alk⟩, ⟨afz, afr, afb⟩, ⟨atz, atr, atb⟩, an⟩ := e
    unfold agE at hL
    simp only at c0 c1 c2 c3 c4 c5 c6 c7 c8 c9 c10 c11 c12 c13 hL
    have HL : Hid (Calls Tryz.prog 10 _ _ _) := hL
    clear hL
    go_wp2_with (go_at_call 10; refine HL.out.mono ?_; rintro r w3 ⟨rfl, hb3⟩)
    go_ret
    exact ⟨by rw [H1.out]; rfl, hwr.trans (hb3.mono hwr.size)⟩
   | false =>
    rw [hle, if_neg (by decide)] at hL
    have HK : Hid (longE e = false) := hle
    clear hle
    have HNx : Hid (∀ y ∈ l.take (k + 1), longE y = false) := takeE_next HX.out HNo.out HK.out
    clear HX HK
    obtain ⟨ak, ⟨agc, agp⟩, ⟨ali, alc, alu, alk⟩, ⟨afz, afr, afb⟩, ⟨atz, atr, atb⟩, an⟩ := e
    unfold agE at hL
    simp only at c0 c1 c2 c3 c4 c5 c6 c7 c8 c9 c10 c11 c12 c13 hL
    have HL : Hid (Calls Tryz.prog 10 _ _ _) := hL
    clear hL
    go_wp2_with (go_at_call 10; refine HL.out.mono ?_; rintro r w3 ⟨rfl, hb3⟩)
    go_roundw
    case rel => exact ⟨k + 1, by omega, by go_num, hwr.trans (hb3.mono hwr.size), HNx.out⟩
    case measure => simp [RowKit.intOf]; omega
  ·have e : l.take k = l := List.take_of_length_le (by rw [← HN.out]; omega)
   have H0 : Hid (R = 0) := by
    show _ = _
    rw [← HR.out, if_neg]
    rw [longs_no (fun y hy => HNo.out y (by rw [e]; exact hy))]; decide
   clear e
   go_wp2
   go_ret
   exact ⟨by rw [H0.out]; rfl, hwr⟩
end Go.Proofs.YteomomeigbfeoaaGreatDoor
