/-
  What Copy answers: a stock of its own that has the same lines; nothing old is turned.
-/
import Derived.Test.YtiegilnjfadhiabGreatDoorKOf
import Derived.Test.YtiegilnjfadhiabGreatDoorGenM
import Derived.Shelf.SlMaps.Clone
namespace Go.Proofs.YtiegilnjfadhiabGreatDoor
open Go.RowKit Go.Lib Go.Sort Go.Shelf

set_option maxHeartbeats 2000000 in
/-- Copy. -/
theorem copy_any (w : World) (p b : Nat) (m : List Ln) (h : IsStock w p b m) :
    Calls Tryz.prog 19 #[.pointer (some ⟨p, 0, none⟩)] w fun e w' => ∃ p' b', e = .returned (.pointer (some ⟨p', 0, none⟩)) ∧ w.heap.size ≤ p' ∧ w.heap.size ≤ b' ∧ IsStock w' p' b' m ∧ Below w.heap.size w w' := by
  obtain ⟨es, clock, hb, hst, hk, hp⟩ := h.map
  have hcl := AnyW.maps_Clone Tryz.laysCloneM b es clock w hb
  change Calls Tryz.prog 49 _ _ _ at hcl
  have HC : Hid (Calls Tryz.prog 49 _ _ _) := hcl
  have hc := h.cell
  have HM : Hid (MapL Tryz.prog 90 (w.alloc (.map es clock)) w.heap.size (m.map entN)) := ⟨es, clock, Go.heap_alloc_new w _, hst, hk, hp⟩
  have HW : Hid (Wf m) := h.wf
  clear hcl h hst hk hp hb
  go_enter Tryz.func19, Tryz.ntmps19
  go_wp2_with (go_at_call 49; refine HC.out.mono ?_; rintro e w1 ⟨rfl, rfl⟩)
  go_ret
  refine ⟨w.heap.size + 1, w.heap.size, by simp, by omega, Nat.le_refl _, ⟨by simp, ?_, HW.out⟩, ((Below.refl _ w).alloc (Nat.le_refl _) _).alloc (by simp) _⟩
  exact HM.out.below ((Below.refl (w.heap.size + 1) _).alloc (by simp) _) (by omega)
end Go.Proofs.YtiegilnjfadhiabGreatDoor
