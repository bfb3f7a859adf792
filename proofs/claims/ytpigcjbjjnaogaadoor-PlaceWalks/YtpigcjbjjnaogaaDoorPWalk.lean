/-
  What place.Walk answers: the same places, in memory of its own, as they come on the way; nothing old is turned; condition: at most 100,000 places.
-/
import Derived.Test.YtpigcjbjjnaogaaDoorPCmp
import Derived.Test.YtpigcjbjjnaogaaDoorGen
import Derived.OwnWalk
namespace Go.Proofs.YtpigcjbjjnaogaaDoor
open Go.RowKit Go.Lib Go.Sort Go.Shelf

theorem Tryd.infoPl : (Tryd.prog.info? 47).map (fun i => (i.zero, i.size, i.bytes)) = some (some (.agg #[.string ⟨#[]⟩, .int .i64 0, .int .i64 0]), 3, 32) := by kernel_rfl
theorem encP_len (x : Pl) : (encP x).length = 3 := rfl
theorem encP_one (x : Pl) : ∀ v ∈ encP x, v.oneCell' = true := by
  intro v hv; simp [encP] at hv; rcases hv with rfl | rfl | rfl <;> rfl
theorem below_sortK {B : Nat} (w : World) (blk off n : Nat) (d : Array Pl) (os : Array Obj) (hB : B ≤ w.heap.size) (hb : B ≤ blk) : Below B w (sortWorldK encP 3 w blk off n d os) := by
  refine ⟨rfl, rfl, rfl, ?_, fun k hk => ?_⟩
  · unfold sortWorldK; rw [size_grow, size_putRowK]; simp
  · unfold sortWorldK
    rw [heap_grow_old _ _ (by rw [size_putRowK]; simp; omega)]
    show (w.heap.modify blk _)[k]? = _
    rw [Array.getElem?_modify, if_neg (by omega)]
theorem cmpLaysP (blk off size : Nat) (w : World) : CmpLays Tryd.prog 44 #[] encP 3 cmpP blk off size w := fun _ _ _ _ x y => compare_any x y _
theorem flat_one (d : Array Pl) : ∀ u ∈ (flatK encP 3 d).toList, u.oneCell' = true := by
  intro u hu
  unfold flatK at hu
  simp only [Array.toList_map, List.mem_map] at hu
  obtain ⟨t, _, rfl⟩ := hu
  have ht : t % 3 < 3 := Nat.mod_lt _ (by decide)
  exact encP_one _ _ (by rw [getElem!_pos (encP d[t / 3]!) (t % 3) (by rw [encP_len]; exact ht)]; exact List.getElem_mem _)
/-- The places lie in a row. -/
def RowP (w : World) (b off : Nat) (d : Array Pl) : Prop := ∀ j, j < d.size * 3 → w.cell? ⟨b, off + j, none⟩ = some (flatK encP 3 d)[j]!
theorem own_shape {w : World} {base e size n : Nat} {v : Value} {xs : List Value} (h : w.ownsRow base e size v n xs) (hv : v ≠ .slice none 0 0) : ∃ g cap, v = .slice (some ⟨g, 0, none⟩) n cap ∧ base ≤ g ∧ g < w.heap.size := by
  rcases h.2 with ⟨rfl, _⟩ | ⟨g, cap, cur, rfl, hg, hb, _⟩
  · exact absurd rfl hv
  · exact ⟨g, cap, rfl, hg, by
      rcases Nat.lt_or_ge g w.heap.size with h' | h'
      · exact h'
      · simp [Array.getElem?_eq_none h'] at hb⟩
theorem own_holds {w : World} {base g cap : Nat} {d : Array Pl} (h : w.ownsRow base 47 3 (.slice (some ⟨g, 0, none⟩) d.size cap) d.size (flatK encP 3 d).toList) : HoldsK encP 3 w g 0 d := by
  intro j hj
  rw [size_flatK] at hj
  refine ⟨?_, ?_⟩
  · rw [Nat.zero_add, h.cellAt j hj, Array.getElem?_toList, getElem!_pos _ j (by rw [size_flatK]; exact hj), Array.getElem?_eq_getElem]; rfl
  · rw [Nat.zero_add]; exact h.frozenAt j
set_option maxHeartbeats 1000000 in
/-- place.Walk, of a slice that is not nil. -/
theorem walk_some (b off c : Nat) (d : Array Pl) (w : World) (hn : d.size ≤ 100000) (hr : RowP w b off d) :
    Calls Tryd.prog 33 #[.slice (some ⟨b, off, none⟩) d.size c] w fun e w' => ∃ g cap d', e = .returned (.slice (some ⟨g, 0, none⟩) d.size cap) ∧ w.heap.size ≤ g ∧ PermIn 0 d.size d d' ∧ SortedIn aheadP 0 d.size d' ∧ HoldsK encP 3 w' g 0 d' ∧ Below w.heap.size w w' := by
  obtain ⟨i0, hi, hz0, hz1, hz2⟩ := info_parts Tryd.infoPl
  have hcl := AnyE.slices_Clone Tryd.laysCloneP i0 (.agg #[.string ⟨#[]⟩, .int .i64 0, .int .i64 0]) 3 32 hi hz0 hz1 hz2 rfl (by decide) Tryd.sizeOf47 b off d.size c (flatK encP 3 d).toList w (by simp) (by unfold maxLen; omega) (by omega)
    (fun j u hj => by
      obtain ⟨hj', hu⟩ := List.getElem?_eq_some_iff.1 hj
      have hj2 : j < d.size * 3 := by simpa using hj'
      rw [hr j hj2, getElem!_pos _ j (by rw [size_flatK]; exact hj2)]
      rw [← hu]; simp) (flat_one d)
  have eg : ∀ args w, (callFunc 44 args).run Tryd.prog w = .ok (.enter 44 args) w := enters_of Tryd.func44 (by kernel_rfl) rfl
  have hso := fun g cap w1 (hH : HoldsK encP 3 w1 g 0 d) (hg : g < w1.heap.size) => AnyQ.slices_SortFunc Tryd.laysSortP 3 Tryd.isAgg47 Tryd.sizeOf47 encP encP_len encP_one cmpP swoP 44 #[] g 0 cap d w1 eg (cmpLaysP g 0 d.size w1) hH hg (by omega)
  change Calls Tryd.prog 47 _ _ _ at hcl
  change ∀ g cap w1, _ → _ → Calls Tryd.prog 48 _ _ _ at hso
  have HC : Hid (Calls Tryd.prog 47 _ _ _) := hcl
  clear hcl hr eg
  go_enter Tryd.func33, Tryd.ntmps33
  go_wp2_with (first
    | (go_at_call 47; refine HC.out.mono ?_; rintro e w1 ⟨v', rfl, hown, hne, hb⟩; obtain ⟨g, cap, rfl, hg, hlt⟩ := own_shape hown hne; have hH := own_holds hown; clear hown)
    | (go_at_call 48; refine (hso g cap _ hH hlt).mono ?_; rintro e w2 ⟨rfl, d', m, os, hp, hs, rfl⟩))
  go_ret
  exact ⟨g, cap, d', rfl, hg, hp, hs, SWK.holds ⟨m, os, rfl⟩ hlt hH hp.1, hb.trans (below_sortK w1 g 0 m d' os hb.size hg)⟩
end Go.Proofs.YtpigcjbjjnaogaaDoor
