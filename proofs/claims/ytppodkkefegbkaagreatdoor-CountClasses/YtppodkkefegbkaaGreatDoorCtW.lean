/-
 The law CountTwice answers true of at most forty entries, none too long, and a sheet that is not too long, in every memory in which the errors are laid; nothing old is turned.
-/
import Derived.Test.YtppodkkefegbkaaGreatDoorJz14
import Derived.Test.YtppodkkefegbkaaGreatDoorJz26
import Derived.Test.YtppodkkefegbkaaGreatDoorQOf
import Derived.Test.YtppodkkefegbkaaGreatDoorJz29
import Derived.Test.YtppodkkefegbkaaGreatDoorJz6
import Derived.Lib.QuietBelow
import Derived.BigQuiet
set_option maxRecDepth 100000
set_option maxHeartbeats 16000000
namespace Go.Proofs.YtppodkkefegbkaaGreatDoor
open Go.RowKit Go.Lib Go.Sort
theorem counted_any {s : Nat → Addr} (C : CountK s) (w : World) (hs : Sent w s) : Calls Tryz.prog 6 #[] w fun e w' => e = .returned (.bool true) ∧ Below w.heap.size w w' := by
 have HC : Hid (∀ W q, Below w.heap.size w W → LineAt W q 0 ((⟨#[97]⟩, 1, 1), ⟨#[108, 49]⟩, 5) → Calls Tryz.prog 15 #[.slice (some ⟨q, 0, none⟩) 1 1] W fun e w' => e = .returned .nilIface ∧ Below W.heap.size W w') := fun W q hb hl => (C.check W (some ⟨q, 0, none⟩) [((⟨#[97]⟩, 1, 1), ⟨#[108, 49]⟩, 5)] 1 (hs.below hb) (Or.inr ⟨q, 0, rfl, hl.lt, fun k x hx => by
   cases k with
   | zero => cases hx; exact hl
   | succ k => simp at hx⟩) (by decide) (by decide) (fun x hx => by
   rw [List.mem_singleton.1 hx]
   exact ⟨by show (1 : Nat) ≤ maxLen; unfold maxLen; decide, by show (2 : Nat) ≤ maxLen; unfold maxLen; decide⟩)).mono fun e w' ⟨h1, h2⟩ => by
  rcases h1 with ⟨_, h3⟩ | ⟨k, hk, _, hne, _⟩
  ·exact ⟨h3, h2⟩
  ·obtain rfl : k = 0 := by simp at hk; omega
   exact absurd own_sheet hne
 have HD1 : Hid (∀ W, Calls Tryz.prog 17 #[.string ⟨#[97]⟩, .int .i64 0, .int .i64 30] W fun e w' => e = .returned (.bool true) ∧ Below W.heap.size W w') := fun W => by
  have := C.due W clA 0 30 ⟨by decide, by decide⟩ ⟨by decide, by decide⟩
  rw [due_own.1] at this
  exact this
 have HD2 : Hid (∀ W, Calls Tryz.prog 17 #[.string ⟨#[97]⟩, .int .i64 0, .int .i64 29] W fun e w' => e = .returned (.bool false) ∧ Below W.heap.size W w') := fun W => by
  have := C.due W clA 0 29 ⟨by decide, by decide⟩ ⟨by decide, by decide⟩
  rw [due_own.2] at this
  exact this
 clear C hs
 obtain ⟨U1, hU1⟩ : ∃ U1, w.alloc (.cells #[.string ⟨#[97]⟩, .int .i64 1, .int .i64 1] 41) = U1 := ⟨_, rfl⟩
 have hb1 : Below w.heap.size w U1 := hU1 ▸ (Below.refl _ w).alloc (Nat.le_refl _) _
 have k0 : U1.cell? ⟨w.heap.size, 0, none⟩ = some (.string ⟨#[97]⟩) := by rw [← hU1, World.cell?_alloc_at _ _ _ _ rfl]; rfl
 have k1 : U1.cell? ⟨w.heap.size, 1, none⟩ = some (.int .i64 1) := by rw [← hU1, World.cell?_alloc_at _ _ _ _ rfl]; rfl
 have k2 : U1.cell? ⟨w.heap.size, 2, none⟩ = some (.int .i64 1) := by rw [← hU1, World.cell?_alloc_at _ _ _ _ rfl]; rfl
 obtain ⟨U2, hU2⟩ : ∃ U2, U1.alloc (.cells #[.string ⟨#[97]⟩, .int .i64 1, .int .i64 1, .string ⟨#[108, 49]⟩, .int .i64 5] 48) = U2 := ⟨_, rfl⟩
 have hl2 : LineAt U2 U1.heap.size 0 ((⟨#[97]⟩, 1, 1), ⟨#[108, 49]⟩, 5) := hU2 ▸ LineAt.new U1 (((⟨#[97]⟩, 1, 1), ⟨#[108, 49]⟩, 5) : Ln) _ _ rfl
 have hb2 : Below w.heap.size w U2 := hU2 ▸ hb1.alloc hb1.size _
 have HCk : Hid (Calls Tryz.prog 15 _ U2 _) := HC.out U2 _ hb2 hl2
 have HB2 : Hid (Below w.heap.size w U2) := hb2
 clear hb1 hb2 hl2
 go_enter Tryz.func6, Tryz.ntmps6
 go_wp2_with (first
  | (go_at_call 15; refine HCk.out.mono ?_; rintro r w3 ⟨rfl, hb3⟩; have HB3 : Hid (Below w.heap.size w w3) := HB2.out.trans (hb3.mono HB2.out.size); clear hb3)
  | (go_at_call 17; refine (HD1.out _).mono ?_; clear HD1; rintro r w4 ⟨rfl, hb4⟩; have HB4 : Hid (Below w.heap.size w w4) := HB3.out.trans (hb4.mono HB3.out.size); clear hb4)
  | (go_at_call 17; refine (HD2.out _).mono ?_; rintro r w5 ⟨rfl, hb5⟩; have HB5 : Hid (Below w.heap.size w w5) := HB4.out.trans (hb5.mono HB4.out.size); clear hb5))
 go_ret
 exact ⟨rfl, HB5.out⟩
end Go.Proofs.YtppodkkefegbkaaGreatDoor
