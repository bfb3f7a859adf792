/-
  What others answers: what is left of an entry without the fields that its sort has; nothing old is turned.
-/
import Derived.Test.YtgdhfipbbijngaaGreatDoorEzB
import Derived.RegionTactic
namespace Go.Proofs.YtgdhfipbbijngaaGreatDoor
open Go.RowKit Go.Lib Go.Sort

set_option maxRecDepth 100000 in
set_option maxHeartbeats 8000000 in
theorem others_to (e : En) (w : World) (hk : e.1 = kIn ∨ e.1 = kMore) :
    Calls Tryz.prog 23 #[agE e] w fun r w' => r = .returned (agE (othersC .tow e)) ∧ Below w.heap.size w w' := by
  have hPl := fun w1 (h0 : w1.cell? ⟨w.heap.size, 0, none⟩ = some (.string e.1)) => places_to e.1 w.heap.size w1 hk h0
  obtain ⟨k, ⟨gc, gp⟩, ⟨li, lc, lu, lk⟩, ⟨fz, fr, fb⟩, ⟨tz, tr, tb⟩, n⟩ := e
  have hg : (k.toList == (⟨#[103, 111, 111, 100, 115]⟩ : ByteArray).data.toList) = false := other_word (by rcases hk with h | h <;> simp only at h <;> subst h <;> decide)
  have hl : (k.toList == (⟨#[108, 111, 116]⟩ : ByteArray).data.toList) = false := other_word (by rcases hk with h | h <;> simp only at h <;> subst h <;> decide)
  simp only at hg hl
  unfold othersC agE zeroP
  unfold kFrom kTo
  simp only [if_true, if_false, Bool.false_eq_true] at hPl ⊢
  clear hk
  go_enter Tryz.func23, Tryz.ntmps23
  go_wp2_with (go_at_call 43; refine (hPl _ (by simp)).mono ?_; rintro e w1 ⟨rfl, rfl⟩)
  refine wp_loop_rounds 2 ?_
  rw [rounds_succ]
  go_wp2
  rw [rounds_succ]
  go_wp2
  refine bodyPost_ret (v := .agg #[.string ⟨#[]⟩, .string gc, .int .i64 gp, .string ⟨#[]⟩, .string lc, .int .i64 lu, .int .i64 lk, .string fz, .int .i64 fr, .int .i64 fb, .string ⟨#[]⟩, .int .i64 0, .int .i64 0, .int .i64 0]) (by simp [results, Tryz.results23, go_sem]) rfl ⟨rfl, ?_⟩
  repeat (first | exact Below.refl _ _ | (refine Below.setCell ?_ (by (try simp); (try omega)) _) | (refine Below.alloc ?_ (by (try simp); (try omega)) _) | (refine Below.drew ?_))
set_option maxRecDepth 100000 in
set_option maxHeartbeats 8000000 in
theorem others_from (e : En) (w : World) (hk : e.1 = kOut ∨ e.1 = kLess) :
    Calls Tryz.prog 23 #[agE e] w fun r w' => r = .returned (agE (othersC .frm e)) ∧ Below w.heap.size w w' := by
  have hPl := fun w1 (h0 : w1.cell? ⟨w.heap.size, 0, none⟩ = some (.string e.1)) => places_from e.1 w.heap.size w1 hk h0
  obtain ⟨k, ⟨gc, gp⟩, ⟨li, lc, lu, lk⟩, ⟨fz, fr, fb⟩, ⟨tz, tr, tb⟩, n⟩ := e
  have hg : (k.toList == (⟨#[103, 111, 111, 100, 115]⟩ : ByteArray).data.toList) = false := other_word (by rcases hk with h | h <;> simp only at h <;> subst h <;> decide)
  have hl : (k.toList == (⟨#[108, 111, 116]⟩ : ByteArray).data.toList) = false := other_word (by rcases hk with h | h <;> simp only at h <;> subst h <;> decide)
  simp only at hg hl
  unfold othersC agE zeroP
  unfold kFrom kTo
  simp only [if_true, if_false, Bool.false_eq_true] at hPl ⊢
  clear hk
  go_enter Tryz.func23, Tryz.ntmps23
  go_wp2_with (go_at_call 43; refine (hPl _ (by simp)).mono ?_; rintro e w1 ⟨rfl, rfl⟩)
  refine wp_loop_rounds 2 ?_
  rw [rounds_succ]
  go_wp2
  rw [rounds_succ]
  go_wp2
  refine bodyPost_ret (v := .agg #[.string ⟨#[]⟩, .string gc, .int .i64 gp, .string ⟨#[]⟩, .string lc, .int .i64 lu, .int .i64 lk, .string ⟨#[]⟩, .int .i64 0, .int .i64 0, .string tz, .int .i64 tr, .int .i64 tb, .int .i64 0]) (by simp [results, Tryz.results23, go_sem]) rfl ⟨rfl, ?_⟩
  repeat (first | exact Below.refl _ _ | (refine Below.setCell ?_ (by (try simp); (try omega)) _) | (refine Below.alloc ?_ (by (try simp); (try omega)) _) | (refine Below.drew ?_))
end Go.Proofs.YtgdhfipbbijngaaGreatDoor
