/-
  What compare and Lines answer: the order of lines; the lines of a stock in order, in memory of their own; nothing old is turned.
-/
import Derived.Test.YtcipbkaopnaiiabGreatDoorKRow
import Derived.Test.YtcipbkaopnaiiabGreatDoorPCmpA
import Derived.Test.YtcipbkaopnaiiabGreatDoorGenK
import Derived.Deep.RegionHeld3
namespace Go.Proofs.YtcipbkaopnaiiabGreatDoor
open Go.RowKit Go.Lib Go.Sort Go.Shelf

abbrev boxN2 (w : World) (x y : Ln) : World := (w.alloc (.cells #[.string x.1.1, .int .i64 x.1.2.1, .int .i64 x.1.2.2, .string x.2.1, .int .i64 x.2.2] 69)).alloc (.cells #[.string y.1.1, .int .i64 y.1.2.1, .int .i64 y.1.2.2, .string y.2.1, .int .i64 y.2.2] 69)
theorem boxN2_grew (w : World) (x y : Ln) : Grew w (boxN2 w x y) := ((Grew.refl w).alloc _).alloc _
theorem boxN2_first (w : World) (x y : Ln) : LineAt (boxN2 w x y) w.heap.size 0 x := (LineAt.new w x _ _ rfl).below ((Below.refl _ _).alloc (Nat.le_refl _) _)
theorem boxN2_second (w : World) (x y : Ln) : LineAt (boxN2 w x y) (w.heap.size + 1) 0 y := LineAt.new _ y _ _ (by simp)
set_option maxRecDepth 100000 in
set_option maxHeartbeats 4000000 in
/-- compare. -/
theorem kcompare_any (x y : Ln) (w : World) : Calls Tryz.prog 79 #[agN x, agN y] w fun e w' => e = .returned (.int .i64 (cmpN x y)) ∧ Grew w w' := by
  have hg := boxN2_grew w x y
  obtain ⟨x0, x1, x2, x3, _⟩ := boxN2_first w x y
  obtain ⟨y0, y1, y2, y3, _⟩ := boxN2_second w x y
  obtain ⟨⟨a, r, b⟩, c, n⟩ := x
  obtain ⟨⟨a', r', b'⟩, c', n'⟩ := y
  have h1 : ∀ w, Calls Tryz.prog 101 #[agP (a, r, b), agP (a', r', b')] w fun e w' => e = .returned (.int .i64 (cmpP (a, r, b) (a', r', b'))) ∧ Grew w w' := fun w => compare_any (a, r, b) (a', r', b') w
  have h2 := fun w => cmpS_any c c' w
  have HE : Hid (cmpN ((a, r, b), c, n) ((a', r', b'), c', n') = or2 (cmpP (a, r, b) (a', r', b')) (cmpZ c c')) := rfl
  unfold agP agN boxN2 at *
  simp only [Nat.zero_add] at *
  generalize cmpN ((a, r, b), c, n) ((a', r', b'), c', n') = E at *
  generalize cmpP (a, r, b) (a', r', b') = c1 at *
  generalize cmpZ c c' = c2 at *
  have h4 := fun bk cc w => or2_any bk cc c1 c2 w
  have hA : ∀ w' o, Grew w w' → Grew w (w'.alloc o) := fun w' o h => h.alloc o
  have hD : ∀ w', Grew w w' → Grew w w'.drew := fun w' h => h.drew
  go_enter Tryz.func79, Tryz.ntmps79
  go_wp2
  go_region_held3 (fun w' => Grew w w' ∧ w'.cell? ⟨w.heap.size, 0, none⟩ = some (.string a) ∧ w'.cell? ⟨w.heap.size, 1, none⟩ = some (.int .i64 r) ∧ w'.cell? ⟨w.heap.size, 2, none⟩ = some (.int .i64 b) ∧ w'.cell? ⟨w.heap.size, 3, none⟩ = some (.string c) ∧ w'.cell? ⟨w.heap.size + 1, 0, none⟩ = some (.string a') ∧ w'.cell? ⟨w.heap.size + 1, 1, none⟩ = some (.int .i64 r') ∧ w'.cell? ⟨w.heap.size + 1, 2, none⟩ = some (.int .i64 b') ∧ w'.cell? ⟨w.heap.size + 1, 3, none⟩ = some (.string c')) (go_keep)
    (first
      | (go_at_call 101; refine (h1 _).mono ?_; rintro e w1 ⟨rfl, hg1⟩; have k0 := hg1.keep x0; have k1 := hg1.keep x1; have k2 := hg1.keep x2; have k3 := hg1.keep x3; have l0 := hg1.keep y0; have l1 := hg1.keep y1; have l2 := hg1.keep y2; have l3 := hg1.keep y3; have hgw := (hD _ hg).trans hg1)
      | (go_at_call 102; refine (h2 _).mono ?_; rintro e w1 ⟨rfl, rfl⟩)
      | (go_at_call 100; refine (h4 _ _ _ (by rw [World.cell?_alloc_at _ _ _ _ rfl]; rfl) (by rw [World.cell?_alloc_at _ _ _ _ rfl]; rfl)).mono ?_; rintro e w3 ⟨rfl, rfl⟩))
  go_wp2
  go_ret
  exact ⟨by rw [HE.out]; rfl, hgw.alloc _⟩
theorem cmpLaysN (blk off size : Nat) (w : World) : CmpLays Tryz.prog 79 #[] encN 5 cmpN blk off size w := fun _ _ _ _ x y => kcompare_any x y _
end Go.Proofs.YtcipbkaopnaiiabGreatDoor
