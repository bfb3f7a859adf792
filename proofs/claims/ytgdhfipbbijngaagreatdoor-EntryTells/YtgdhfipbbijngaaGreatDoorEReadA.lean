/-
  What readGoods answers of a text, and readPieces of a kind that is none; over every world that holds the sentinels as the program lays them; condition: the text is shorter than 4,294,967,281 bytes.
-/
import Derived.Test.YtgdhfipbbijngaaGreatDoorESplit
import Derived.Test.YtgdhfipbbijngaaGreatDoorEzB
import Derived.RegionTactic
namespace Go.Proofs.YtgdhfipbbijngaaGreatDoor
open Go.RowKit Go.Lib Go.Sort

set_option maxRecDepth 100000 in
set_option maxHeartbeats 4000000 in
theorem rg_no (x : ByteArray) (w : World) (s : Nat → Addr) (hz : x.size < 4294967281) (hs : Es w s) (h : num1 x.data.toList = false) :
    Calls Tryz.prog 35 #[.string x] w fun e w' => e = .returned (.tuple #[agE zeroE, err (s 0)]) ∧ Below w.heap.size w w' := by
  have hp := wn1_no x (w.alloc (celE zeroE)) hz h
  have hT : ∀ o, ((w.alloc (celE zeroE)).alloc o).cell? ⟨1, 0, none⟩ = some (err (s 0)) := fun o => (hs.below (((Below.refl _ w).alloc (Nat.le_refl _) _).alloc (by simp) _)).three.text
  clear hz hs h
  unfold agE celE zeroE zeroG zeroL zeroP at *
  simp only at *
  have HP : Hid (Calls Tryz.prog 48 _ _ _) := hp
  clear hp
  go_enter Tryz.func35, Tryz.ntmps35
  go_wp2_with (go_at_call 48; refine HP.out.mono ?_; rintro e w1 ⟨⟨v, n, rfl⟩, o, rfl⟩)
  have hTo := hT o
  go_region
  go_wp2
  refine bodyPost_ret (v := .tuple #[.agg #[.string ⟨#[]⟩, .string ⟨#[]⟩, .int .i64 0, .string ⟨#[]⟩, .string ⟨#[]⟩, .int .i64 0, .int .i64 0, .string ⟨#[]⟩, .int .i64 0, .int .i64 0, .string ⟨#[]⟩, .int .i64 0, .int .i64 0, .int .i64 0], err (s 0)]) (by simp [results, Tryz.results35, go_sem]) rfl ⟨rfl, ?_⟩
  repeat (first | exact Below.refl _ _ | assumption | (refine Below.setCell ?_ (by (try simp); (try omega)) _) | (refine Below.alloc ?_ (by (try simp); (try omega)) _) | (refine Below.drew ?_))
set_option maxRecDepth 100000 in
set_option maxHeartbeats 4000000 in
theorem rg_yes (x : ByteArray) (w : World) (hz : x.size < 4294967281) (h : has 32 x.data.toList = true) (h1 : isNum 13 (cutB 32 x.data.toList) = true) :
    Calls Tryz.prog 35 #[.string x] w fun e w' => e = .returned (.tuple #[agE (kGoods, (arr (cutA 32 x.data.toList), numR 13 (cutB 32 x.data.toList)), zeroL, zeroP, zeroP, 0), .nilIface]) ∧ Below w.heap.size w w' := by
  have hp := wn1_yes x (w.alloc (celE zeroE)) hz h
  rw [h1] at hp
  clear hz h h1
  unfold agE celE zeroE zeroG zeroL zeroP arr at *
  simp only at *
  generalize (⟨(cutA 32 x.data.toList).toArray⟩ : ByteArray) = z0 at *
  generalize (⟨(cutB 32 x.data.toList).toArray⟩ : ByteArray) = z1 at *
  generalize numR 13 (cutB 32 x.data.toList) = nn at *
  have HP : Hid (Calls Tryz.prog 48 _ _ _) := hp
  clear hp
  go_enter Tryz.func35, Tryz.ntmps35
  go_wp2_with (go_at_call 48; refine HP.out.mono ?_; rintro e w1 ⟨rfl, rfl⟩)
  refine bodyPost_ret (v := .tuple #[.agg #[.string kGoods, .string z0, .int .i64 nn, .string ⟨#[]⟩, .string ⟨#[]⟩, .int .i64 0, .int .i64 0, .string ⟨#[]⟩, .int .i64 0, .int .i64 0, .string ⟨#[]⟩, .int .i64 0, .int .i64 0, .int .i64 0], .nilIface]) (by simp [results, Tryz.results35, go_sem]) rfl ⟨rfl, ?_⟩
  repeat (first | exact Below.refl _ _ | assumption | (refine Below.setCell ?_ (by (try simp); (try omega)) _) | (refine Below.alloc ?_ (by (try simp); (try omega)) _) | (refine Below.drew ?_))
set_option maxRecDepth 100000 in
set_option maxHeartbeats 4000000 in
theorem rp_other (k x : ByteArray) (w : World) (s : Nat → Addr) (hs : Es w s) (hk : NoKind k) :
    Calls Tryz.prog 37 #[.string k, .string x] w fun e w' => e = .returned (.tuple #[agE zeroE, err (s 3)]) ∧ Below w.heap.size w w' := by
  have hPl := fun w1 (h0 : w1.cell? ⟨w.heap.size + 1, 0, none⟩ = some (.string k)) => places_other k (w.heap.size + 1) w1 hk h0
  have hT : ∀ o, ((w.alloc (celE zeroE)).alloc o).cell? ⟨3, 0, none⟩ = some (err (s 3)) := fun o => (hs.below (((Below.refl _ w).alloc (Nat.le_refl _) _).alloc (by simp) _)).kind
  clear hs hk
  unfold agE celE zeroE zeroG zeroL zeroP at *
  simp only at *
  have hTo := hT (.cells #[.string k, .string ⟨#[]⟩, .int .i64 0, .string ⟨#[]⟩, .string ⟨#[]⟩, .int .i64 0, .int .i64 0, .string ⟨#[]⟩, .int .i64 0, .int .i64 0, .string ⟨#[]⟩, .int .i64 0, .int .i64 0, .int .i64 0] 29)
  go_enter Tryz.func37, Tryz.ntmps37
  go_wp2_with (go_at_call 43; refine (hPl _ (by simp)).mono ?_; rintro e w1 ⟨rfl, rfl⟩)
  go_region
  go_wp2
  refine bodyPost_ret (v := .tuple #[.agg #[.string ⟨#[]⟩, .string ⟨#[]⟩, .int .i64 0, .string ⟨#[]⟩, .string ⟨#[]⟩, .int .i64 0, .int .i64 0, .string ⟨#[]⟩, .int .i64 0, .int .i64 0, .string ⟨#[]⟩, .int .i64 0, .int .i64 0, .int .i64 0], err (s 3)]) (by simp [results, Tryz.results37, go_sem]) rfl ⟨rfl, ?_⟩
  repeat (first | exact Below.refl _ _ | assumption | (refine Below.setCell ?_ (by (try simp); (try omega)) _) | (refine Below.alloc ?_ (by (try simp); (try omega)) _) | (refine Below.drew ?_))
theorem set3_other {w : World} {r : Nat} {e : En} (h : BlkE w r e) (q i j k : Nat) (a b c : Value) (hn : r ≠ q) : BlkE (((w.setCell ⟨q, i, none⟩ a).setCell ⟨q, j, none⟩ b).setCell ⟨q, k, none⟩ c) r e := by
  unfold BlkE
  rw [Below.heap_setCell _ _ _ _ hn, Below.heap_setCell _ _ _ _ hn, Below.heap_setCell _ _ _ _ hn]
  exact h
end Go.Proofs.YtgdhfipbbijngaaGreatDoor
