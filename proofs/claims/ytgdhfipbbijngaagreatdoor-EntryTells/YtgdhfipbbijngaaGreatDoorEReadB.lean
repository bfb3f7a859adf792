/-
  What readPieces answers of an entry of pieces with no place; over every world that holds the sentinels as the program lays them; condition: the text is shorter than 4,294,967,281 bytes.
-/
import Derived.Test.YtgdhfipbbijngaaGreatDoorEReadA
import Derived.Test.YtgdhfipbbijngaaGreatDoorEzB
import Derived.RegionTactic
namespace Go.Proofs.YtgdhfipbbijngaaGreatDoor
open Go.RowKit Go.Lib Go.Sort

set_option maxRecDepth 100000 in
set_option maxHeartbeats 4000000 in
theorem rp_hold_no (k x : ByteArray) (w : World) (s : Nat → Addr) (hz : x.size < 4294967281) (hs : Es w s) (hk : k = kHold ∨ k = kFree) (h : num1 x.data.toList = false) :
    Calls Tryz.prog 37 #[.string k, .string x] w fun e w' => e = .returned (.tuple #[agE zeroE, err (s 0)]) ∧ Below w.heap.size w w' := by
  have hPl := fun w1 (h0 : w1.cell? ⟨w.heap.size + 1, 0, none⟩ = some (.string k)) => places_hold k (w.heap.size + 1) w1 hk h0
  have hp := fun w1 => wn1_no x w1 hz h
  have hT := fun w1 (hb : Below w.heap.size w w1) => (hs.below hb).three.text
  clear hk
  clear hz hs h
  unfold agE zeroE zeroG zeroL zeroP at *
  simp only at *
  have hB1 : Below w.heap.size w ((w.alloc (.cells #[.string ⟨#[]⟩, .string ⟨#[]⟩, .int .i64 0, .string ⟨#[]⟩, .string ⟨#[]⟩, .int .i64 0, .int .i64 0, .string ⟨#[]⟩, .int .i64 0, .int .i64 0, .string ⟨#[]⟩, .int .i64 0, .int .i64 0, .int .i64 0] 29)).alloc (.cells #[.string k, .string ⟨#[]⟩, .int .i64 0, .string ⟨#[]⟩, .string ⟨#[]⟩, .int .i64 0, .int .i64 0, .string ⟨#[]⟩, .int .i64 0, .int .i64 0, .string ⟨#[]⟩, .int .i64 0, .int .i64 0, .int .i64 0] 29)) := by
    repeat (first | exact Below.refl _ _ | assumption | (refine Below.setCell ?_ (by (try simp); (try omega)) _) | (refine Below.alloc ?_ (by (try simp); (try omega)) _) | (refine Below.drew ?_))
  have hTo := fun o => hT _ (hB1.alloc hB1.size o)
  have HP : Hid (∀ w1, Calls Tryz.prog 48 _ _ _) := hp
  clear hp hT
  go_enter Tryz.func37, Tryz.ntmps37
  go_wp2_with (first
    | (go_at_call 43; refine (hPl _ (by simp)).mono ?_; rintro e w1 ⟨rfl, rfl⟩)
    | (go_at_call 48; refine (HP.out _).mono ?_; rintro e w2 ⟨⟨v, n, rfl⟩, o, rfl⟩; have hT2 := hTo o))
  go_region
  go_wp2
  refine bodyPost_ret (v := .tuple #[.agg #[.string ⟨#[]⟩, .string ⟨#[]⟩, .int .i64 0, .string ⟨#[]⟩, .string ⟨#[]⟩, .int .i64 0, .int .i64 0, .string ⟨#[]⟩, .int .i64 0, .int .i64 0, .string ⟨#[]⟩, .int .i64 0, .int .i64 0, .int .i64 0], err (s 0)]) (by simp [results, Tryz.results37, go_sem]) rfl ⟨rfl, ?_⟩
  repeat (first | exact Below.refl _ _ | assumption | (refine Below.setCell ?_ (by (try simp); (try omega)) _) | (refine Below.alloc ?_ (by (try simp); (try omega)) _) | (refine Below.drew ?_))
set_option maxRecDepth 100000 in
set_option maxHeartbeats 8000000 in
theorem rp_hold_ok (k x : ByteArray) (w : World) (hz : x.size < 4294967281) (hk : k = kHold ∨ k = kFree) (h : has 32 x.data.toList = true) (h1 : isNum 13 (cutB 32 x.data.toList) = true) :
    Calls Tryz.prog 37 #[.string k, .string x] w fun e w' => e = .returned (.tuple #[agE (k, zeroG, (arr (cutA 32 x.data.toList), ⟨#[]⟩, 0, 0), zeroP, zeroP, numR 13 (cutB 32 x.data.toList)), .nilIface]) ∧ Below w.heap.size w w' := by
  have hPl := fun w1 (h0 : w1.cell? ⟨w.heap.size + 1, 0, none⟩ = some (.string k)) => places_hold k (w.heap.size + 1) w1 hk h0
  have hp := fun w1 => wn1_yes x w1 hz h
  rw [h1] at hp
  clear hz h h1 hk
  unfold agE zeroG zeroP arr at *
  simp only at *
  generalize numR 13 (cutB 32 x.data.toList) = nn at *
  generalize (⟨(cutA 32 x.data.toList).toArray⟩ : ByteArray) = z0 at *
  generalize (⟨(cutB 32 x.data.toList).toArray⟩ : ByteArray) = z1 at *
  have HP : Hid (∀ w1, Calls Tryz.prog 48 _ _ _) := hp
  clear hp
  go_enter Tryz.func37, Tryz.ntmps37
  go_wp2_with (first | (go_at_call 43; refine (hPl _ (by simp)).mono ?_; rintro e w1 ⟨rfl, rfl⟩) | (go_at_call 48; refine (HP.out _).mono ?_; rintro e w2 ⟨rfl, rfl⟩))
  refine wp_loop_rounds 1 ?_
  rw [rounds_succ]
  go_wp2
  refine bodyPost_ret (v := .tuple #[.agg #[.string k, .string ⟨#[]⟩, .int .i64 0, .string z0, .string ⟨#[]⟩, .int .i64 0, .int .i64 0, .string ⟨#[]⟩, .int .i64 0, .int .i64 0, .string ⟨#[]⟩, .int .i64 0, .int .i64 0, .int .i64 nn], .nilIface]) (by simp [results, Tryz.results37, go_sem]) rfl ⟨rfl, ?_⟩
  repeat (first | exact Below.refl _ _ | assumption | (refine Below.setCell ?_ (by (try simp); (try omega)) _) | (refine Below.alloc ?_ (by (try simp); (try omega)) _) | (refine Below.drew ?_))
end Go.Proofs.YtgdhfipbbijngaaGreatDoor
