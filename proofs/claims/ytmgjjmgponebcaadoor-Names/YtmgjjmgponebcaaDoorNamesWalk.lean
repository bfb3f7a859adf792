/-
  The law Names walked, in every world in which the sentinels' variables and errors.errorType are laid: it answers true and leaves what was there as it was.
-/
import Derived.Test.YtmgjjmgponebcaaDoorCode
import Derived.BigQuiet
import Derived.WalkSmall
namespace Go.Proofs.YtmgjjmgponebcaaDoor
open Go.RowKit Go.Extern.Stop Go.Stop Go.Extern

set_option maxHeartbeats 1000000 in
/-- Two lists of the same numbers. -/
theorem sameInts_true (b1 b2 n : Nat) (f : Nat → Int) (w : World) (hn : n ≤ 1000) (h1 : ∀ k, k < n → w.cell? ⟨b1, k, none⟩ = some (.int .i64 (f k))) (h2 : ∀ k, k < n → w.cell? ⟨b2, k, none⟩ = some (.int .i64 (f k))) :
    Calls Tryd.prog 6 #[.slice (some ⟨b1, 0, none⟩) n n, .slice (some ⟨b2, 0, none⟩) n n] w fun e w' => e = .returned (.bool true) ∧ ∃ d, w' = w.drewN d := by
  go_enter Tryd.func6, Tryd.ntmps6
  go_wp2
  go_loopw [5] (fun i w' => ∃ k d : Nat, k ≤ n ∧ i = .int .i64 k ∧ w' = w.drewN d) (fun i _ => n - (intOf i).toNat)
  case atStart => exact ⟨0, 0, by omega, rfl, rfl⟩
  case round =>
    obtain ⟨k, d, hk, rfl, rfl⟩ := hrel
    by_cases hlt : k < n
    · have e1 := h1 k hlt
      have e2 := h2 k hlt
      go_wp2
      go_quiet (fail)
      go_wp2
      go_roundw
      case rel => exact ⟨k + 1, _, by omega, by go_num, rfl⟩
      case measure => simp [intOf]; omega
    · go_wp2
      go_ret
      exact ⟨rfl, d, rfl⟩

theorem errNew (x : ByteArray) (w : World) : Calls Tryd.prog 9 #[.string x] w fun e w' => e = .returned (err ⟨w.heap.size, 0, none⟩) ∧ w' = w.alloc (.cells #[.string x] 51) := by
  go_enter Tryd.func9, Tryd.ntmps9
  go_wp2
  go_ret
  exact ⟨rfl, rfl⟩

def bounds (k : Nat) : Int := [30, 1000, 8, 20, 40, 1099511627776, 1048576, 100000, 60, 200, 20000, 30, 1048576, 80, 16].getD k 0

set_option maxHeartbeats 2000000 in
theorem names_walk (w : World) (s : Nat → Addr) (hs : Sent w s) (hh : Handle w) :
    Calls Tryd.prog 3 #[] w fun e w' => e = .returned (.bool true) ∧ Below w.heap.size w w' := by
  go_enter Tryd.func3, Tryd.ntmps3
  go_wp2_with (go_at_call 6; refine (sameInts_true _ _ 15 bounds _ (by decide) (fun k hk => by rcases k with _ | _ | _ | _ | _ | _ | _ | _ | _ | _ | _ | _ | _ | _ | _ | k <;> first | omega | simp [bounds]) (fun k hk => by rcases k with _ | _ | _ | _ | _ | _ | _ | _ | _ | _ | _ | _ | _ | _ | _ | k <;> first | omega | simp [bounds])).mono ?_; rintro e w1 ⟨rfl, d, hd⟩; have hb0 : Below w.heap.size w w1 := (by rw [hd]; exact below_drewN (((Below.refl _ _).alloc (Nat.le_refl _) _).alloc (by simp) _) d); clear hd; obtain ⟨c0, c1, c2, c3, c4, c5, c6, c7, c8, c9, c10, c11⟩ := (hs.below hb0).cells)
  have hb2 : Below w.heap.size w (w1.alloc (.cells #[err (s 0), err (s 1), err (s 2), err (s 3), err (s 4), err (s 5), err (s 6), err (s 7), err (s 8), err (s 9), err (s 10), err (s 11)] 25)) := hb0.alloc hb0.size _
  have hs2 : Sent (w1.alloc (.cells #[err (s 0), err (s 1), err (s 2), err (s 3), err (s 4), err (s 5), err (s 6), err (s 7), err (s 8), err (s 9), err (s 10), err (s 11)] 25)) s := hs.below hb2
  have hh2 : Handle (w1.alloc (.cells #[err (s 0), err (s 1), err (s 2), err (s 3), err (s 4), err (s 5), err (s 6), err (s 7), err (s 8), err (s 9), err (s 10), err (s 11)] 25)) := hh.below hb2
  have hk2 : ∀ k, k < 12 → (w1.alloc (.cells #[err (s 0), err (s 1), err (s 2), err (s 3), err (s 4), err (s 5), err (s 6), err (s 7), err (s 8), err (s 9), err (s 10), err (s 11)] 25)).cell? ⟨w1.heap.size, k, none⟩ = some (err (s k)) := fun k hk => by
    rcases k with _ | _ | _ | _ | _ | _ | _ | _ | _ | _ | _ | _ | k <;> first | omega | simp
  have hl2 : w1.heap.size < (w1.alloc (.cells #[err (s 0), err (s 1), err (s 2), err (s 3), err (s 4), err (s 5), err (s 6), err (s 7), err (s 8), err (s 9), err (s 10), err (s 11)] 25)).heap.size := by simp
  clear c0 c1 c2 c3 c4 c5 c6 c7 c8 c9 c10 c11 hb0
  generalize (w1.alloc (.cells #[err (s 0), err (s 1), err (s 2), err (s 3), err (s 4), err (s 5), err (s 6), err (s 7), err (s 8), err (s 9), err (s 10), err (s 11)] 25)) = W2 at hs2 hh2 hb2 hk2 hl2 ⊢
  go_loopw [4] (fun i w' => ∃ k : Nat, k ≤ 12 ∧ i = .int .i64 k ∧ Below W2.heap.size W2 w') (fun i _ => 12 - (intOf i).toNat)
  case atStart => exact ⟨0, by omega, rfl, Below.refl _ _⟩
  case round =>
    obtain ⟨k, hk, rfl, hbr⟩ := hrel
    have sr : Sent wr s := hs2.below hbr
    have hr : Handle wr := hh2.below hbr
    by_cases hlt : k < 12
    · have hck : wr.cell? ⟨w1.heap.size, k, none⟩ = some (err (s k)) := (hbr.cell (p := ⟨w1.heap.size, k, none⟩) hl2).trans (hk2 k hlt)
      have hlr : w1.heap.size < wr.heap.size := Nat.lt_of_lt_of_le hl2 hbr.size
      go_wp2_with (first
        | (go_at_call 7; refine (code_fault_sent wr.heap.size 0 7 k hlt _ s (sr.below ((Below.refl _ _).alloc (Nat.le_refl _) _)) (hr.below ((Below.refl _ _).alloc (Nat.le_refl _) _)) (by simp) (by simp)).mono ?_; rintro e w3 ⟨rfl, hb3⟩; have hb4 : Below wr.heap.size wr w3 := ((Below.refl _ _).alloc (Nat.le_refl _) _).trans (hb3.mono (by simp)); have hck3 := (hb4.cell (p := ⟨w1.heap.size, k, none⟩) hlr).trans hck; clear hb3)
        | (go_at_call 8; refine (coded_sent k hlt _ rfl _ s (sr.below hb4) (hr.below hb4)).mono ?_; rintro e w5 ⟨rfl, hb5⟩))
      go_roundw
      case rel => exact ⟨k + 1, by omega, by go_num, hbr.trans ((hb4.trans (hb5.mono hb4.size)).mono hbr.size)⟩
      case measure => simp [intOf]; omega
    · have hx : ∀ x : ByteArray, (wr.alloc (.cells #[.string x] 51)).heap[wr.heap.size]? = some (.cells #[.string x] 51 (0, 0)) := fun x => by show (wr.heap.push _)[wr.heap.size]? = _; simp
      go_wp2_with (first
        | (go_at_call 9; refine (errNew _ _).mono ?_; rintro e w6 ⟨rfl, rfl⟩)
        | (go_at_call 7; refine (code_new ⟨wr.heap.size, 0, none⟩ _ s (sr.below ((Below.refl _ _).alloc (Nat.le_refl _) _)) (hr.below ((Below.refl _ _).alloc (Nat.le_refl _) _)) _ _ (hx _) (fun i hi h => by obtain ⟨c, t, hc⟩ := sr.block i hi; have := block_lt hc; rw [h] at this; simp at this)).mono ?_; rintro e w3 ⟨rfl, hb3⟩; have hb4 : Below wr.heap.size wr w3 := ((Below.refl _ _).alloc (Nat.le_refl _) _).trans (hb3.mono (by simp)); clear hb3)
        | (go_at_call 8; refine (coded_nil 0 _).mono ?_; rintro e w5 ⟨rfl, rfl⟩))
      go_ret
      exact ⟨rfl, hb2.trans ((hbr.trans (hb4.mono hbr.size)).mono hb2.size)⟩
end Go.Proofs.YtmgjjmgponebcaaDoor
