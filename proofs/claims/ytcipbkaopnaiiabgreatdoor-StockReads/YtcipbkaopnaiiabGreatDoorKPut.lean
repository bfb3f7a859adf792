/-
  What Put answers and leaves: n pieces more of a lot at a place, or an error and no turn; nothing else that is old is turned.
-/
import Derived.Test.YtcipbkaopnaiiabGreatDoorKTake
namespace Go.Proofs.YtcipbkaopnaiiabGreatDoor
open Go.RowKit Go.Lib Go.Sort
open Go.Maps (Keyed)

theorem putL_err {m : List Ln} {x : Pl} {c : ByteArray} {n : Int} (h : putE m x c n ≠ 0) : putL m x c n = m := by unfold putL; rw [if_neg h]
theorem putL_zero {m : List Ln} {x : Pl} {c : ByteArray} {n : Int} (h : putE m x c n = 0) : putL m x c n = withL m (x, c) (atL m (x, c) + n) := by unfold putL; rw [if_pos h]
theorem putE_place {m : List Ln} {x : Pl} {c : ByteArray} {n : Int} (h : placeErr x ≠ 0) : putE m x c n = placeErr x := by unfold putE; rw [if_neg h]
theorem putE_name {m : List Ln} {x : Pl} {c : ByteArray} {n : Int} (h : placeErr x = 0) (h1 : isName c.data.toList = false) : putE m x c n = 5 := by unfold putE; rw [if_pos h, h1]; rfl
theorem putE_num {m : List Ln} {x : Pl} {c : ByteArray} {n : Int} (h : placeErr x = 0) (h1 : isName c.data.toList = true) (h2 : numW n = false ∨ 1099511627776 < ofL m c + n) : putE m x c n = 2 := by
  unfold putE; rw [if_pos h, if_pos h1, if_neg]
  simp only [Bool.and_eq_true, decide_eq_true_eq]
  rintro ⟨a, b⟩
  rcases h2 with h2 | h2
  · rw [a] at h2; cases h2
  · omega
theorem putE_full {m : List Ln} {x : Pl} {c : ByteArray} {n : Int} (h : placeErr x = 0) (h1 : isName c.data.toList = true) (h2 : numW n = true) (h3 : ofL m c + n ≤ 1099511627776) : putE m x c n = if atL m (x, c) = 0 ∧ 200 ≤ m.length then 8 else 0 := by
  unfold putE; rw [if_pos h, if_pos h1, if_pos]
  simp [h2, h3]
abbrev boxP (w : World) (x : Pl) : World := w.alloc (.cells #[.string x.1, .int .i64 x.2.1, .int .i64 x.2.2] 41)
theorem boxP_below (w : World) (x : Pl) : Below w.heap.size w (boxP w x) := (Below.refl _ w).alloc (Nat.le_refl _) _
set_option maxHeartbeats 2000000 in
theorem put_place (x : Pl) (c : ByteArray) (n : Int) (w : World) (s : Nat → Addr) (p : Nat) (hz : x.1.size ≤ maxLen) (hs : Five w s) (h0 : placeErr x ≠ 0) :
    Calls Tryz.prog 14 #[.pointer (some ⟨p, 0, none⟩), agP x, .string c, .int .i64 n] w fun e w' => e = .returned (errP s (placeErr x)) ∧ Below w.heap.size w w' := by
  have hB := boxP_below w x
  have hC := pcheck_any x _ s hz (hs.two.below hB)
  rw [errP_pos s h0] at hC ⊢
  generalize s (placeErr x - 1) = ad at *
  clear hs hz h0
  obtain ⟨a, r, bb⟩ := x
  unfold agP boxP at *
  simp only at *
  have HC : Hid (Calls Tryz.prog 52 _ _ _) := hC
  have HB : Hid (Below _ _ _) := hB
  clear hC hB
  go_enter Tryz.func14, Tryz.ntmps14
  go_wp2_with (go_at_call 52; refine HC.out.mono ?_; rintro e w1 ⟨rfl, hb⟩)
  go_ret
  exact ⟨rfl, HB.out.trans (hb.mono HB.out.size)⟩
set_option maxHeartbeats 2000000 in
theorem put_name (x : Pl) (c : ByteArray) (n : Int) (w : World) (s : Nat → Addr) (p : Nat) (hz : x.1.size ≤ maxLen) (hz' : c.size ≤ maxLen) (hs : Five w s) (h0 : placeErr x = 0) (h1 : isName c.data.toList = false) :
    Calls Tryz.prog 14 #[.pointer (some ⟨p, 0, none⟩), agP x, .string c, .int .i64 n] w fun e w' => e = .returned (err (s 4)) ∧ Below w.heap.size w w' := by
  have hB := boxP_below w x
  have hC := pcheck_any x _ s hz (hs.two.below hB)
  rw [h0, errP_zero] at hC
  have hN : ∀ w, Calls Tryz.prog 53 #[.string c] w _ := fun w => name_any c w hz'
  rw [h1] at hN
  have hg := fun w1 (hb : Below w.heap.size w w1) => (hs.two.below hb).name
  clear hs hz hz' h0 h1
  obtain ⟨a, r, bb⟩ := x
  unfold agP boxP at *
  simp only at *
  have HC : Hid (Calls Tryz.prog 52 _ _ _) := hC
  have HB : Hid (Below _ _ _) := hB
  clear hC hB
  go_enter Tryz.func14, Tryz.ntmps14
  go_wp2_with (first
    | (go_at_call 52; refine HC.out.mono ?_; rintro e w1 ⟨rfl, hb⟩; have g := hg w1 (HB.out.trans (hb.mono HB.out.size)))
    | (go_at_call 53; refine (hN _).mono ?_; rintro e w2 ⟨rfl, rfl⟩))
  go_ret
  exact ⟨rfl, HB.out.trans (hb.mono HB.out.size)⟩
set_option maxHeartbeats 2000000 in
theorem put_num (x : Pl) (c : ByteArray) (n : Int) (w : World) (s : Nat → Addr) (p b : Nat) (m : List Ln) (h : IsStock w p b m) (hz : x.1.size ≤ maxLen) (hz' : c.size ≤ maxLen) (hs : Five w s) (h0 : placeErr x = 0) (h1 : isName c.data.toList = true) (h2 : numW n = false ∨ (numW n = true ∧ 1099511627776 < ofL m c + n)) :
    Calls Tryz.prog 14 #[.pointer (some ⟨p, 0, none⟩), agP x, .string c, .int .i64 n] w fun e w' => e = .returned (err (s 1)) ∧ Below w.heap.size w w' := by
  have hB := boxP_below w x
  have hC := pcheck_any x _ s hz (hs.two.below hB)
  rw [h0, errP_zero] at hC
  have hN : ∀ w, Calls Tryz.prog 53 #[.string c] w _ := fun w => name_any c w hz'
  rw [h1] at hN
  have hg := fun w1 (hb : Below w.heap.size w w1) => (hs.two.below hb).bound
  have hW := fun w => numWell_any n w
  have hO := fun w1 (hb : Below w.heap.size w w1) => of_any c w1 p b m (h.all hb)
  obtain ⟨o1, o2⟩ := h.wf.of_bound c
  clear hs hz hz' h0 h1 h
  generalize ofL m c = O at *
  obtain ⟨a, r, bb⟩ := x
  unfold agP boxP at *
  simp only at *
  have HC : Hid (Calls Tryz.prog 52 _ _ _) := hC
  have HB : Hid (Below _ _ _) := hB
  clear hC hB
  rcases h2 with h2 | ⟨h2, h3⟩
  · rw [h2] at hW
    clear hO
    go_enter Tryz.func14, Tryz.ntmps14
    go_wp2_with (first
      | (go_at_call 52; refine HC.out.mono ?_; rintro e w1 ⟨rfl, hb⟩; have g := hg w1 (HB.out.trans (hb.mono HB.out.size)))
      | (go_at_call 53; refine (hN _).mono ?_; rintro e w2 ⟨rfl, rfl⟩)
      | (go_at_call 54; refine (hW _).mono ?_; rintro e w3 ⟨rfl, rfl⟩))
    go_ret
    exact ⟨rfl, HB.out.trans (hb.mono HB.out.size)⟩
  · have hn := (numW_iff n).1 h2
    rw [h2] at hW
    obtain ⟨n1, n2⟩ := hn
    go_enter Tryz.func14, Tryz.ntmps14
    go_wp2_with (first
      | (go_at_call 52; refine HC.out.mono ?_; rintro e w1 ⟨rfl, hb⟩; have hb1 : Below w.heap.size w w1 := HB.out.trans (hb.mono HB.out.size))
      | (go_at_call 53; refine (hN _).mono ?_; rintro e w2 ⟨rfl, rfl⟩)
      | (go_at_call 54; refine (hW _).mono ?_; rintro e w3 ⟨rfl, rfl⟩)
      | (go_at_call 23; refine (hO _ hb1).mono ?_; rintro e w4 ⟨rfl, hb4⟩; have hb5 : Below w.heap.size w w4 := hb1.trans (hb4.mono hb1.size); have g := hg w4 hb5))
    go_ret
    exact ⟨rfl, hb5⟩
end Go.Proofs.YtcipbkaopnaiiabGreatDoor
