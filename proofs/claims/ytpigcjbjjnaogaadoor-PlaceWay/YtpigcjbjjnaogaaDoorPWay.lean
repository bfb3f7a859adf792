/-
  The law PlaceWay answers true where one of the three places is not well; and what its tests come to where all are.
-/
import Derived.Test.YtpigcjbjjnaogaaDoorPWalk
import Derived.Test.YtpigcjbjjnaogaaDoorPWalked
import Derived.Test.YtpigcjbjjnaogaaDoorPEq
namespace Go.Proofs.YtpigcjbjjnaogaaDoor
open Go.RowKit Go.Lib Go.Sort

/-- Three places, each in a block of its own. -/
structure BoxThree (n : Nat) (x y z : Pl) (W : World) : Prop where
  fst : BoxAt n x W
  snd : BoxAt (n + 1) y W
  thd : BoxAt (n + 1 + 1) z W
theorem BoxThree.below {n : Nat} {x y z : Pl} {W W' : World} (h : BoxThree n x y z W) (hb : Below W.heap.size W W') : BoxThree n x y z W' := ⟨h.fst.below hb, h.snd.below hb, h.thd.below hb⟩
abbrev boxThree (w : World) (x y z : Pl) : World := ((w.alloc (.cells #[.string x.1, .int .i64 x.2.1, .int .i64 x.2.2] 47)).alloc (.cells #[.string y.1, .int .i64 y.2.1, .int .i64 y.2.2] 47)).alloc (.cells #[.string z.1, .int .i64 z.2.1, .int .i64 z.2.2] 47)
theorem boxThree_below (w : World) (x y z : Pl) : Below w.heap.size w (boxThree w x y z) := (((Below.refl _ w).alloc (Nat.le_refl _) _).alloc (by simp) _).alloc (by simp; omega) _
theorem boxThree_box (w : World) (x y z : Pl) : BoxThree w.heap.size x y z (boxThree w x y z) :=
  ⟨((BoxAt.new w x _ _ rfl).below ((Below.refl _ _).alloc (Nat.le_refl _) _)).below ((Below.refl _ _).alloc (Nat.le_refl _) _), (BoxAt.new _ y _ _ (by simp)).below ((Below.refl _ _).alloc (Nat.le_refl _) _), BoxAt.new _ z _ _ (by simp)⟩

set_option maxHeartbeats 2000000 in
theorem way_out (x y z : Pl) (w : World) (s : Nat → Addr) (hs : Two w s) (hp : Pow w) (wx : x.1.size ≤ maxLen) (wy : y.1.size ≤ maxLen) (wz : z.1.size ≤ maxLen) (h : (okP x && okP y && okP z) = false) :
    Calls Tryd.prog 7 #[agP x, agP y, agP z] w fun e w' => e = .returned (.bool true) ∧ Below w.heap.size w w' := by
  have hB := boxThree_below w x y z
  have k := boxThree_box w x y z
  have ht := walked_any (boxThree w x y z) s (hs.below hB) (hp.below hB)
  have h1 := fun w1 (hb : Below w.heap.size w w1) => pcheck_any x w1 s wx (hs.below hb)
  have h2 := fun w1 (hb : Below w.heap.size w w1) => pcheck_any y w1 s wy (hs.below hb)
  have h3 := fun w1 (hb : Below w.heap.size w w1) => pcheck_any z w1 s wz (hs.below hb)
  have hk : (placeErr x ≠ 0) ∨ (placeErr x = 0 ∧ placeErr y ≠ 0) ∨ (placeErr x = 0 ∧ placeErr y = 0 ∧ placeErr z ≠ 0) := by
    rcases Decidable.em (placeErr x = 0) with e1 | e1
    · rcases Decidable.em (placeErr y = 0) with e2 | e2
      · refine Or.inr (Or.inr ⟨e1, e2, fun e3 => ?_⟩)
        rw [(okP_err x).2 e1, (okP_err y).2 e2, (okP_err z).2 e3] at h; cases h
      · exact Or.inr (Or.inl ⟨e1, e2⟩)
    · exact Or.inl e1
  clear h hs hp wx wy wz
  rcases hk with e1 | ⟨e1, e2⟩ | ⟨e1, e2, e3⟩
  · rw [errP_pos s e1] at h1
    clear e1 h2 h3
    generalize s (placeErr x - 1) = ad at h1
    obtain ⟨a, r, b⟩ := x
    obtain ⟨a', r', b'⟩ := y
    obtain ⟨a'', r'', b''⟩ := z
    unfold agP boxThree at *
    simp only at *
    have HT : Hid (Calls Tryd.prog 22 _ _ _) := ht
    have HB : Hid (Below _ _ _) := hB
    clear ht hB
    go_enter Tryd.func7, Tryd.ntmps7
    go_wp2_with (first
      | (go_at_call 22; refine HT.out.mono ?_; rintro e w1 ⟨rfl, hb⟩; obtain ⟨⟨c0, c1, c2⟩, ⟨d0, d1, d2⟩, ⟨f0, f1, f2⟩⟩ := k.below hb; have hb1 : Below w.heap.size w w1 := HB.out.trans (hb.mono HB.out.size))
      | (go_at_call 25; refine (h1 _ hb1).mono ?_; rintro e w2 ⟨rfl, hb'⟩; have hb2 : Below w.heap.size w w2 := hb1.trans (hb'.mono hb1.size)))
    go_ret
    exact ⟨rfl, hb2⟩
  · rw [e1, errP_zero] at h1
    rw [errP_pos s e2] at h2
    clear e1 e2 h3
    generalize s (placeErr y - 1) = ad at h2
    obtain ⟨a, r, b⟩ := x
    obtain ⟨a', r', b'⟩ := y
    obtain ⟨a'', r'', b''⟩ := z
    unfold agP boxThree at *
    simp only at *
    have HT : Hid (Calls Tryd.prog 22 _ _ _) := ht
    have HB : Hid (Below _ _ _) := hB
    clear ht hB
    go_enter Tryd.func7, Tryd.ntmps7
    go_wp2_with (first
      | (go_at_call 22; refine HT.out.mono ?_; rintro e w1 ⟨rfl, hb⟩; have k1 := k.below hb; obtain ⟨⟨c0, c1, c2⟩, ⟨d0, d1, d2⟩, ⟨f0, f1, f2⟩⟩ := k.below hb; have hb1 : Below w.heap.size w w1 := HB.out.trans (hb.mono HB.out.size))
      | (go_at_call 25; refine (h1 _ hb1).mono ?_; rintro e w2 ⟨rfl, hb'⟩; obtain ⟨⟨c0', c1', c2'⟩, ⟨d0', d1', d2'⟩, ⟨f0', f1', f2'⟩⟩ := k1.below hb'; have hb2 : Below w.heap.size w w2 := hb1.trans (hb'.mono hb1.size); clear h1)
      | (go_at_call 25; refine (h2 _ hb2).mono ?_; rintro e w3 ⟨rfl, hb''⟩; have hb3 : Below w.heap.size w w3 := hb2.trans (hb''.mono hb2.size)))
    go_ret
    exact ⟨rfl, hb3⟩
  · rw [e1, errP_zero] at h1
    rw [e2, errP_zero] at h2
    rw [errP_pos s e3] at h3
    clear e1 e2 e3
    generalize s (placeErr z - 1) = ad at h3
    obtain ⟨a, r, b⟩ := x
    obtain ⟨a', r', b'⟩ := y
    obtain ⟨a'', r'', b''⟩ := z
    unfold agP boxThree at *
    simp only at *
    have HT : Hid (Calls Tryd.prog 22 _ _ _) := ht
    have HB : Hid (Below _ _ _) := hB
    clear ht hB
    go_enter Tryd.func7, Tryd.ntmps7
    go_wp2_with (first
      | (go_at_call 22; refine HT.out.mono ?_; rintro e w1 ⟨rfl, hb⟩; have k1 := k.below hb; obtain ⟨⟨c0, c1, c2⟩, ⟨d0, d1, d2⟩, ⟨f0, f1, f2⟩⟩ := k.below hb; have hb1 : Below w.heap.size w w1 := HB.out.trans (hb.mono HB.out.size))
      | (go_at_call 25; refine (h1 _ hb1).mono ?_; rintro e w2 ⟨rfl, hb'⟩; have k2 := k1.below hb'; obtain ⟨⟨c0', c1', c2'⟩, ⟨d0', d1', d2'⟩, ⟨f0', f1', f2'⟩⟩ := k1.below hb'; have hb2 : Below w.heap.size w w2 := hb1.trans (hb'.mono hb1.size); clear h1)
      | (go_at_call 25; refine (h2 _ hb2).mono ?_; rintro e w3 ⟨rfl, hb''⟩; obtain ⟨⟨c0'', c1'', c2''⟩, ⟨d0'', d1'', d2''⟩, ⟨f0'', f1'', f2''⟩⟩ := k2.below hb''; have hb3 : Below w.heap.size w w3 := hb2.trans (hb''.mono hb2.size); clear h2)
      | (go_at_call 25; refine (h3 _ hb3).mono ?_; rintro e w4 ⟨rfl, hb4⟩; have hbE : Below w.heap.size w w4 := hb3.trans (hb4.mono hb3.size)))
    go_ret
    exact ⟨rfl, hbE⟩
end Go.Proofs.YtpigcjbjjnaogaaDoor
