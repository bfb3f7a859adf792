/-
  The law PlaceWalks answers true of no places and of more than forty, over every world that holds ErrName, ErrBound and strconv's table of powers as the program lays them; plain facts on rows of places.
-/
import Derived.Test.YtpigcjbjjnaogaaDoorPWalk
import Derived.Test.YtpigcjbjjnaogaaDoorPWalked
import Derived.Test.YtpigcjbjjnaogaaDoorPEq
import Derived.Shelf.SlSortCmp.NoneTotal
import Derived.Laws.AppendOwnNone
import Derived.Deep.AppendLies
import Derived.WalkKit
namespace Go.Proofs.YtpigcjbjjnaogaaDoor
open Go.RowKit Go.Lib Go.Sort Go.Shelf

theorem RowP.cells {w : World} {b off : Nat} {d : Array Pl} (h : RowP w b off d) {j : Nat} (hj : j < d.size) :
    w.cell? ⟨b, off + j * 3, none⟩ = some (.string d[j]!.1) ∧ w.cell? ⟨b, off + j * 3 + 1, none⟩ = some (.int .i64 d[j]!.2.1) ∧ w.cell? ⟨b, off + j * 3 + 2, none⟩ = some (.int .i64 d[j]!.2.2) := by
  have key : ∀ c, c < 3 → w.cell? ⟨b, off + (j * 3 + c), none⟩ = some ((encP d[j]!)[c]!) := by
    intro c hc
    have := h (j * 3 + c) (by omega)
    rw [get_flatK encP 3 d _ (by omega), show (j * 3 + c) / 3 = j by omega, show (j * 3 + c) % 3 = c by omega] at this
    exact this
  exact ⟨key 0 (by decide), key 1 (by decide), key 2 (by decide)⟩
theorem RowP.below {w w' : World} {b off : Nat} {d : Array Pl} (h : RowP w b off d) (hb : Below w.heap.size w w') : RowP w' b off d := fun j hj => by
  rw [hb.cell (p := ⟨b, off + j, none⟩) (cell_lt (h j hj))]; exact h j hj
theorem RowP.of_holds {w : World} {g : Nat} {d : Array Pl} (h : HoldsK encP 3 w g 0 d) : RowP w g 0 d := fun j hj => (h j (by rw [size_flatK]; exact hj)).1
/-- How many of the first j are e. -/
def cntP (e : Pl) (d : Array Pl) (j : Nat) : Nat := ((d.toList.take j).countP fun x => decide (x = e))
theorem cntP_le (e : Pl) (d : Array Pl) (j : Nat) : cntP e d j ≤ j := by
  unfold cntP
  have h1 := List.countP_le_length (p := fun x => decide (x = e)) (l := d.toList.take j)
  have h2 := List.length_take_le j d.toList
  omega
theorem take_next (d : Array Pl) (j : Nat) (hj : j < d.size) : d.toList.take (j + 1) = d.toList.take j ++ [d[j]!] := by
  rw [List.take_succ_eq_append_getElem (by simpa using hj), getElem!_pos d j hj]; rfl
theorem cntP_hit {e : Pl} {d : Array Pl} {j : Nat} (hj : j < d.size) (h : d[j]! = e) : cntP e d (j + 1) = cntP e d j + 1 := by
  unfold cntP; rw [take_next d j hj, List.countP_append]; simp [h]
theorem cntP_miss {e : Pl} {d : Array Pl} {j : Nat} (hj : j < d.size) (h : d[j]! ≠ e) : cntP e d (j + 1) = cntP e d j := by
  unfold cntP; rw [take_next d j hj, List.countP_append]; simp [h]
theorem cntP_perm {e : Pl} {d d' : Array Pl} (h : PermIn 0 d.size d d') : cntP e d' d.size = cntP e d d.size := by
  obtain ⟨hs, _, hp⟩ := h
  have e1 : (d'.extract 0 d.size).toList = d'.toList.take d.size := by simp
  have e2 : (d.extract 0 d.size).toList = d.toList.take d.size := by
    rw [Array.toList_extract]; simp
  rw [e1, e2] at hp
  unfold cntP
  exact hp.countP_eq _

set_option maxHeartbeats 1000000 in
/-- place.Walk of nil. -/
theorem walk_none (w : World) : Calls Tryd.prog 33 #[.slice none 0 0] w fun e w' => e = .returned (.slice none 0 0) ∧ w' = w := by
  have hcl := AnyE.slices_Clone_nil Tryd.laysCloneP 0 0 w
  have hso := fun W => AnyF.slices_SortFunc_none (P := Tryd.prog) (ρ := Tryd.laysSortP_ren) { Tryd.laysSortP with } none 0 (.func (.func 44) #[] #[]) W
  change Calls Tryd.prog 47 _ _ _ at hcl
  change ∀ W, Calls Tryd.prog 48 _ _ _ at hso
  go_enter Tryd.func33, Tryd.ntmps33
  go_wp2_with (first
    | (go_at_call 47; refine hcl.mono ?_; rintro e w1 ⟨rfl, rfl⟩)
    | (go_at_call 48; refine (hso _).mono ?_; rintro e w2 ⟨rfl, rfl⟩))
  go_ret
  exact ⟨rfl, rfl⟩

set_option maxHeartbeats 1000000 in
theorem walks_long (p : Option Addr) (n c : Nat) (w : World) (s : Nat → Addr) (hs : Two w s) (hp : Pow w) (hn : 40 < n) (hm : n ≤ maxLen) :
    Calls Tryd.prog 8 #[.slice p n c] w fun e w' => e = .returned (.bool true) ∧ Below w.heap.size w w' := by
  have ht := walked_any w s hs hp
  have HT : Hid (Calls Tryd.prog 22 _ _ _) := ht
  clear ht hs hp
  unfold maxLen at hm
  go_enter Tryd.func8, Tryd.ntmps8
  go_wp2_with (go_at_call 22; refine HT.out.mono ?_; rintro e w1 ⟨rfl, hb⟩)
  go_ret
  exact ⟨rfl, hb⟩
set_option maxRecDepth 100000 in
set_option maxHeartbeats 2000000 in
theorem walks_none (p : Option Addr) (c : Nat) (w : World) (s : Nat → Addr) (hs : Two w s) (hp : Pow w) :
    Calls Tryd.prog 8 #[.slice p 0 c] w fun e w' => e = .returned (.bool true) ∧ Below w.heap.size w w' := by
  obtain ⟨i0, hi, hz0, hz1, hz2⟩ := info_parts Tryd.infoPl
  have ht := walked_any w s hs hp
  have HT : Hid (Calls Tryd.prog 22 _ _ _) := ht
  have hw := fun w => walk_none w
  clear ht hs hp
  cases p with
  | none =>
    go_enter Tryd.func8, Tryd.ntmps8
    go_wp2_with (first
      | (go_at_call 22; refine HT.out.mono ?_; rintro e w1 ⟨rfl, hb⟩)
      | (go_at_call 33; refine (hw _).mono ?_; rintro e w2 ⟨rfl, rfl⟩))
    refine wp_loop_rounds 1 ?_
    rw [rounds_succ]
    go_wp2
    go_ret
    exact ⟨rfl, hb⟩
  | some ad =>
    go_enter Tryd.func8, Tryd.ntmps8
    go_wp2_with (first
      | (go_at_call 22; refine HT.out.mono ?_; rintro e w1 ⟨rfl, hb⟩)
      | (at_builtin; refine wpList_append_own _ rfl (.tmp 20) (.tmp 21) 58 rfl w.heap.size 47 i0 (.agg #[.string ⟨#[]⟩, .int .i64 0, .int .i64 0]) 3 32 Tryd.underlying58 hi hz0 hz1 hz2 rfl (by decide) (.slice none 0 0) 0 [] rfl (World.ownsRow_nil _ _ _ _) ad 0 c [] rfl rfl (fun j u hj => by simp at hj) (fun u hu => by simp at hu) (by decide) (by decide) hb.size ?_; intro v' w2 hown hgrow hnil; obtain rfl : v' = .slice none 0 0 := hnil.2 ⟨rfl, rfl⟩; have hb2 : Below w.heap.size w w2 := hb.grown (row := none) hgrow hb.size (fun k hk => by cases hk); clear hown hgrow hnil)
      | (go_at_call 33; refine (hw _).mono ?_; rintro e w3 ⟨rfl, rfl⟩))
    refine wp_loop_rounds 1 ?_
    rw [rounds_succ]
    go_wp2
    go_ret
    exact ⟨rfl, hb2⟩
end Go.Proofs.YtpigcjbjjnaogaaDoor
