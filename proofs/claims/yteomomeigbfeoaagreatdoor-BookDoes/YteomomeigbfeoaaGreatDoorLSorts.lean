/-
 What lot.Sorted answers at no lots and at one to forty; the closed fact of the laws on lots; the language's comparison of two lots; plain facts on rows of lots; the law LotSorts answers true of no lots and of more than forty.
-/
import Derived.Test.YteomomeigbfeoaaGreatDoorJz9
import Derived.Laws.StructEq
import Derived.Laws.AppendOwnNone
import Derived.Deep.AppendLies
import Derived.OwnWalk
import Derived.WalkKit
set_option maxRecDepth 100000
set_option maxHeartbeats 16000000
namespace Go.Proofs.YteomomeigbfeoaaGreatDoor
open Go.RowKit Go.Lib Go.Sort Go.Shelf
theorem Tryz.infoLo : (Tryz.prog.info? 26).map (fun i => (i.zero, i.size, i.bytes)) = some (some (.agg #[.string ⟨#[]⟩, .string ⟨#[]⟩, .int .i64 0, .int .i64 0]), 4, 48) := by kernel_rfl
theorem below_sortL {B : Nat} (w : World) (blk off n : Nat) (d : Array Lo) (os : Array Obj) (hB : B ≤ w.heap.size) (hb : B ≤ blk) : Below B w (sortWorldK encL 4 w blk off n d os) := by
 refine ⟨rfl, rfl, rfl, ?_, fun k hk => ?_⟩
 ·unfold sortWorldK; rw [size_grow, size_putRowK]; simp
 ·unfold sortWorldK
  rw [heap_grow_old _ _ (by rw [size_putRowK]; simp; omega)]
  show (w.heap.modify blk _)[k]? = _
  rw [Array.getElem?_modify, if_neg (by omega)]
theorem flatL_one (d : Array Lo) : ∀ u ∈ (flatK encL 4 d).toList, u.oneCell' = true := by
 intro u hu
 unfold flatK at hu
 simp only [Array.toList_map, List.mem_map] at hu
 obtain ⟨t, _, rfl⟩ := hu
 have ht : t % 4 < 4 := Nat.mod_lt _ (by decide)
 exact encL_one _ _ (by rw [getElem!_pos (encL d[t / 4]!) (t % 4) (by rw [encL_len]; exact ht)]; exact List.getElem_mem _)
def RowL (w : World) (b off : Nat) (d : Array Lo) : Prop := ∀ j, j < d.size * 4 → w.cell? ⟨b, off + j, none⟩ = some (flatK encL 4 d)[j]!
theorem ownL_shape {w : World} {base e size n : Nat} {v : Value} {xs : List Value} (h : w.ownsRow base e size v n xs) (hv : v ≠ .slice none 0 0) : ∃ g cap, v = .slice (some ⟨g, 0, none⟩) n cap ∧ base ≤ g ∧ g < w.heap.size := by
 rcases h.2 with ⟨rfl, _⟩ | ⟨g, cap, cur, rfl, hg, hb, _⟩
 ·exact absurd rfl hv
 ·exact ⟨g, cap, rfl, hg, by
   rcases Nat.lt_or_ge g w.heap.size with h' | h'
   ·exact h'
   ·simp [Array.getElem?_eq_none h'] at hb⟩
theorem ownL_holds {w : World} {base g cap : Nat} {d : Array Lo} (h : w.ownsRow base 26 4 (.slice (some ⟨g, 0, none⟩) d.size cap) d.size (flatK encL 4 d).toList) : HoldsK encL 4 w g 0 d := by
 intro j hj
 rw [size_flatK] at hj
 refine ⟨?_, ?_⟩
 ·rw [Nat.zero_add, h.cellAt j hj, Array.getElem?_toList, getElem!_pos _ j (by rw [size_flatK]; exact hj), Array.getElem?_eq_getElem]; rfl
 ·rw [Nat.zero_add]; exact h.frozenAt j
theorem sorted_some (b off c : Nat) (d : Array Lo) (w : World) (hn : d.size ≤ 59) (hr : RowL w b off d) :
  Calls Tryz.prog 61 #[.slice (some ⟨b, off, none⟩) d.size c] w fun e w' => ∃ g cap d', e = .returned (.slice (some ⟨g, 0, none⟩) d.size cap) ∧ w.heap.size ≤ g ∧ Stably d.size d d' ∧ HoldsK encL 4 w' g 0 d' ∧ Below w.heap.size w w' := by
 obtain ⟨i0, hi, hz0, hz1, hz2⟩ := info_parts Tryz.infoLo
 have hcl := AnyE.slices_Clone Tryz.laysCloneL i0 (.agg #[.string ⟨#[]⟩, .string ⟨#[]⟩, .int .i64 0, .int .i64 0]) 4 48 hi hz0 hz1 hz2 rfl (by decide) Tryz.sizeOf26 b off d.size c (flatK encL 4 d).toList w (by simp) (by unfold maxLen; omega) (by omega)
  (fun j u hj => by
   obtain ⟨hj', hu⟩ := List.getElem?_eq_some_iff.1 hj
   have hj2 : j < d.size * 4 := by simpa using hj'
   rw [hr j hj2, getElem!_pos _ j (by rw [size_flatK]; exact hj2)]
   rw [← hu]; simp) (flatL_one d)
 have hso := fun g cap w1 (hH : HoldsK encL 4 w1 g 0 d) (hg : g < w1.heap.size) => sortStable_any g 0 cap d w1 hH hg hn
 change Calls Tryz.prog 99 _ _ _ at hcl
 have HC : Hid (Calls Tryz.prog 99 _ _ _) := hcl
 clear hcl hr
 go_enter Tryz.func61, Tryz.ntmps61
 go_wp2_with (first
  | (go_at_call 99; refine HC.out.mono ?_; rintro e w1 ⟨v', rfl, hown, hne, hb⟩; obtain ⟨g, cap, rfl, hg, hlt⟩ := ownL_shape hown hne; have hH := ownL_holds hown; clear hown)
  | (go_at_call 100; refine (hso g cap _ hH hlt).mono ?_; rintro e w2 ⟨rfl, d', hst, hsz, m, os, rfl⟩))
 go_ret
 exact ⟨g, cap, d', rfl, hg, hst, SWK.holds ⟨m, os, rfl⟩ hlt hH hst.1.1, hb.trans (below_sortL w1 g 0 m d' os hb.size hg)⟩
theorem sortStable_none (w : World) : Calls Tryz.prog 100 #[.slice none 0 0, .func (.func 62) #[] #[]] w fun e w' => e = .returned (.tuple #[]) ∧ w' = w := by
 have hi : ∀ w, Calls Tryz.prog 182 #[.slice none 0 0, .int .i64 0, .int .i64 0, .func (.func 62) #[] #[]] w fun e w' => e = .returned (.tuple #[]) ∧ w' = w := fun w => by
  go_enter Tryz.func182, Tryz.ntmps182
  go_wp2
  refine wp_loop_rounds 1 ?_
  rw [rounds_succ]
  go_wp2
  go_end0
  exact ⟨rfl, rfl⟩
 have hs : ∀ w, Calls Tryz.prog 142 #[.slice none 0 0, .int .i64 0, .func (.func 62) #[] #[]] w fun e w' => e = .returned (.tuple #[]) ∧ w' = w := fun w => by
  go_enter Tryz.func142, Tryz.ntmps142
  go_wp2
  refine wp_loop_rounds 1 ?_
  rw [rounds_succ]
  go_wp2_with (go_at_call 182; refine (hi _).mono ?_; rintro e w1 ⟨rfl, rfl⟩)
  refine wp_loop_rounds 1 ?_
  rw [rounds_succ]
  go_wp2
  go_end0
  exact ⟨rfl, rfl⟩
 clear hi
 go_enter Tryz.func100, Tryz.ntmps100
 go_wp2_with (go_at_call 142; refine (hs _).mono ?_; rintro e w1 ⟨rfl, rfl⟩)
 go_end0
 exact ⟨rfl, rfl⟩
theorem sorted_none (w : World) : Calls Tryz.prog 61 #[.slice none 0 0] w fun e w' => e = .returned (.slice none 0 0) ∧ w' = w := by
 have hcl := AnyE.slices_Clone_nil Tryz.laysCloneL 0 0 w
 have hso := fun W => sortStable_none W
 change Calls Tryz.prog 99 _ _ _ at hcl
 go_enter Tryz.func61, Tryz.ntmps61
 go_wp2_with (first
  | (go_at_call 99; refine hcl.mono ?_; rintro e w1 ⟨rfl, rfl⟩)
  | (go_at_call 100; refine (hso _).mono ?_; rintro e w2 ⟨rfl, rfl⟩))
 go_ret
 exact ⟨rfl, rfl⟩
theorem RowL.cells {w : World} {b off : Nat} {d : Array Lo} (h : RowL w b off d) {j : Nat} (hj : j < d.size) :
  w.cell? ⟨b, off + j * 4, none⟩ = some (.string d[j]!.1) ∧ w.cell? ⟨b, off + j * 4 + 1, none⟩ = some (.string d[j]!.2.1) ∧ w.cell? ⟨b, off + j * 4 + 2, none⟩ = some (.int .i64 d[j]!.2.2.1) ∧ w.cell? ⟨b, off + j * 4 + 3, none⟩ = some (.int .i64 d[j]!.2.2.2) := by
 have key : ∀ c, c < 4 → w.cell? ⟨b, off + (j * 4 + c), none⟩ = some ((encL d[j]!)[c]!) := by
  intro c hc
  have := h (j * 4 + c) (by omega)
  rw [get_flatK encL 4 d _ (by omega), show (j * 4 + c) / 4 = j by omega, show (j * 4 + c) % 4 = c by omega] at this
  exact this
 exact ⟨key 0 (by decide), key 1 (by decide), key 2 (by decide), key 3 (by decide)⟩
theorem RowL.below {w w' : World} {b off : Nat} {d : Array Lo} (h : RowL w b off d) (hb : Below w.heap.size w w') : RowL w' b off d := fun j hj => by
 rw [hb.cell (p := ⟨b, off + j, none⟩) (cell_lt (h j hj))]; exact h j hj
theorem RowL.of_holds {w : World} {g : Nat} {d : Array Lo} (h : HoldsK encL 4 w g 0 d) : RowL w g 0 d := fun j hj => (h j (by rw [size_flatK]; exact hj)).1
end Go.Proofs.YteomomeigbfeoaaGreatDoor
