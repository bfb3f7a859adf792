/-
  Two layers side by side in memory; what the law's cheap answers; slices of flows.
-/
import Derived.Test.YtefkchmahcjleaaDoorCoT
namespace Go.Proofs.YtefkchmahcjleaaDoor
open Go.RowKit Go.Lib

theorem LyAt.base {w : World} {B q : Nat} {ks : List Nat} {m : List Ly} (h : LyAt w B q ks m) : B ≤ w.heap.size := by
  have h1 := h.r.lo q (by simp)
  have h2 := h.r.lt q (by simp)
  omega
/-- Layers that lie behind all that was there. -/
structure Ly1 (w0 : World) (q : Nat) (W : World) (m : List Ly) : Prop where
  ex : ∃ ks, LyAt W w0.heap.size q ks m
  below : Below w0.heap.size w0 W
theorem Ly1.on {w0 W W' : World} {q : Nat} {m : List Ly} (h : Ly1 w0 q W m) (hb : Below W.heap.size W W') : Ly1 w0 q W' m := by
  obtain ⟨ks, hk⟩ := h.ex
  exact ⟨⟨ks, hk.below hb⟩, h.below.trans (hb.mono h.below.size)⟩
theorem Ly1.in_ {w0 W : World} {q : Nat} {m : List Ly} {s : Nat → Addr} (h : Ly1 w0 q W m) (hs : Cs W s) (n c : Int) :
    Calls Tryd.prog 7 #[ptrK q, .int .i64 n, .int .i64 c] W fun e w' => e = .returned (errP s (inE m n c)) ∧ Ly1 w0 q w' (inL m n c) := by
  obtain ⟨ks, hk⟩ := h.ex
  refine (yin_any W s w0.heap.size q ks m n c hk hs).mono ?_
  rintro e w' ⟨rfl, ks', h1, _, h3⟩
  exact ⟨rfl, ⟨ks', h1⟩, h.below.trans (h3.below hk.base hk.r.lo)⟩
theorem Ly1.out_ {w0 W : World} {q : Nat} {m : List Ly} {s : Nat → Addr} (h : Ly1 w0 q W m) (hs : Cs W s) (n : Int) :
    Calls Tryd.prog 8 #[ptrK q, .int .i64 n] W fun e w' => e = .returned (.tuple #[.int .i64 (outN m n), errP s (outE m n)]) ∧ Ly1 w0 q w' (outL m n) := by
  obtain ⟨ks, hk⟩ := h.ex
  refine (yout_any W s w0.heap.size q ks m n hk hs).mono ?_
  rintro e w' ⟨rfl, ks', h1, _, h3⟩
  exact ⟨rfl, ⟨ks', h1⟩, h.below.trans (h3.below hk.base hk.r.lo)⟩
theorem Ly1.text_ {w0 W : World} {q : Nat} {m : List Ly} (h : Ly1 w0 q W m) (hp : Pow W) (hl : m.length ≤ 1000) :
    Calls Tryd.prog 10 #[ptrK q] W fun e w' => e = .returned (.string ⟨(textY m).toArray⟩) ∧ Below W.heap.size W w' := by
  obtain ⟨ks, hk⟩ := h.ex
  exact ytext_any W _ q ks m hk hp hl
theorem Ly1.worth_ {w0 W : World} {q : Nat} {m : List Ly} (h : Ly1 w0 q W m) :
    Calls Tryd.prog 9 #[ptrK q] W fun e w' => e = .returned (.int .i64 (worthY m)) ∧ Below W.heap.size W w' := by
  obtain ⟨ks, hk⟩ := h.ex
  exact yworth_any W _ q ks m hk
theorem Ly1.new_ (w : World) : Calls Tryd.prog 6 #[] w fun e w' => ∃ q, e = .returned (ptrK q) ∧ Ly1 w q w' [] :=
  (ynew_any w).mono fun _ _ ⟨h1, h2⟩ => ⟨w.heap.size, h1, h2 ▸ ⟨⟨[], LyAt.new w _ (Nat.le_refl _)⟩, (Below.refl _ w).alloc (Nat.le_refl _) _⟩⟩
/-- Two layers that share no memory. -/
structure Ly2 (w0 : World) (px py : Nat) (W : World) (mx my : List Ly) : Prop where
  ex : ∃ kx ky, LyAt W w0.heap.size px kx mx ∧ LyAt W w0.heap.size py ky my ∧ ∀ k ∈ px :: kx, k ∉ py :: ky
  below : Below w0.heap.size w0 W
theorem Ly2.symm {w0 W : World} {px py : Nat} {mx my : List Ly} (h : Ly2 w0 px py W mx my) : Ly2 w0 py px W my mx := by
  obtain ⟨kx, ky, h1, h2, h3⟩ := h.ex
  exact ⟨⟨ky, kx, h2, h1, fun k hk hx => h3 k hx hk⟩, h.below⟩
theorem Ly2.x {w0 W : World} {px py : Nat} {mx my : List Ly} (h : Ly2 w0 px py W mx my) : Ly1 w0 px W mx := by
  obtain ⟨kx, ky, h1, h2, h3⟩ := h.ex
  exact ⟨⟨kx, h1⟩, h.below⟩
theorem Ly2.on {w0 W W' : World} {px py : Nat} {mx my : List Ly} (h : Ly2 w0 px py W mx my) (hb : Below W.heap.size W W') : Ly2 w0 px py W' mx my := by
  obtain ⟨kx, ky, h1, h2, h3⟩ := h.ex
  exact ⟨⟨kx, ky, h1.below hb, h2.below hb, h3⟩, h.below.trans (hb.mono h.below.size)⟩
theorem Ly2.inX {w0 W : World} {px py : Nat} {mx my : List Ly} {s : Nat → Addr} (h : Ly2 w0 px py W mx my) (hs : Cs W s) (n c : Int) :
    Calls Tryd.prog 7 #[ptrK px, .int .i64 n, .int .i64 c] W fun e w' => e = .returned (errP s (inE mx n c)) ∧ Ly2 w0 px py w' (inL mx n c) my := by
  obtain ⟨kx, ky, h1, h2, h3⟩ := h.ex
  refine (yin_any W s w0.heap.size px kx mx n c h1 hs).mono ?_
  rintro e w' ⟨rfl, ks', g1, g2, g3⟩
  refine ⟨rfl, ⟨ks', ky, g1, h2.off g3 fun k hk hx => h3 k hx hk, fun k hk hy => ?_⟩, h.below.trans (g3.below h1.base h1.r.lo)⟩
  have hlt := h2.r.lt k hy
  rcases List.mem_cons.1 hk with rfl | hk
  · exact h3 k (by simp) hy
  · rcases g2 k hk with hk | hk
    · exact h3 k (by simp [hk]) hy
    · omega
theorem Ly2.outX {w0 W : World} {px py : Nat} {mx my : List Ly} {s : Nat → Addr} (h : Ly2 w0 px py W mx my) (hs : Cs W s) (n : Int) :
    Calls Tryd.prog 8 #[ptrK px, .int .i64 n] W fun e w' => e = .returned (.tuple #[.int .i64 (outN mx n), errP s (outE mx n)]) ∧ Ly2 w0 px py w' (outL mx n) my := by
  obtain ⟨kx, ky, h1, h2, h3⟩ := h.ex
  refine (yout_any W s w0.heap.size px kx mx n h1 hs).mono ?_
  rintro e w' ⟨rfl, ks', g1, g2, g3⟩
  refine ⟨rfl, ⟨ks', ky, g1, h2.off g3 fun k hk hx => h3 k hx hk, fun k hk hy => ?_⟩, h.below.trans (g3.below h1.base h1.r.lo)⟩
  rcases List.mem_cons.1 hk with rfl | hk
  · exact h3 k (by simp) hy
  · exact h3 k (by simp [g2 k hk]) hy
theorem Ly1.two {w0 W : World} {px : Nat} {mx : List Ly} (h : Ly1 w0 px W mx) : Calls Tryd.prog 6 #[] W fun e w' => ∃ py, e = .returned (ptrK py) ∧ Ly2 w0 px py w' mx [] := by
  obtain ⟨kx, h1⟩ := h.ex
  refine (ynew_any W).mono ?_
  rintro e w' ⟨rfl, rfl⟩
  have hb : Below W.heap.size W (W.alloc (.cells #[nilP, nilP, .int .i64 0] 47)) := (Below.refl _ W).alloc (Nat.le_refl _) _
  refine ⟨_, rfl, ⟨kx, [], h1.below hb, LyAt.new W _ h.below.size, fun k hk hy => ?_⟩, h.below.trans (hb.mono h.below.size)⟩
  have := h1.r.lt k hk
  simp at hy
  omega
/-- What cheap asks. -/
theorem cheap_plain : inE [] 3 5 = 0 ∧ inL [] 3 5 = [(3, 5)] ∧ inE [(3, 5)] 2 7 = 0 ∧ inL [(3, 5)] 2 7 = [(3, 5), (2, 7)] ∧ outE [(3, 5), (2, 7)] 4 = 0 ∧ outN [(3, 5), (2, 7)] 4 = 22 ∧ outL [(3, 5), (2, 7)] 4 = [(1, 7)] := by decide
theorem cheap_text : (⟨(textY [(1, 7)]).toArray⟩ : ByteArray) = ⟨#[49, 64, 55]⟩ := by
  have e : textY [(1, 7)] = [49, 64, 55] := by
    show decDigits 1 ++ 64 :: decDigits 7 = _
    rw [decDigits_one (by decide), decDigits_one (by decide)]
    rfl
  rw [e]
set_option maxHeartbeats 2000000 in
/-- cheap. -/
theorem cheap_any (w : World) (s : Nat → Addr) (hs : Cs w s) (hp : Pow w) : Calls Tryd.prog 5 #[] w fun e w' => e = .returned (.bool true) ∧ Below w.heap.size w w' := by
  have HN : Hid (Calls Tryd.prog 6 #[] w _) := Ly1.new_ w
  obtain ⟨p1, p2, p3, p4, p5, p6, p7⟩ := cheap_plain
  have H1 : Hid (∀ q W, Ly1 w q W [] → Calls Tryd.prog 7 #[ptrK q, .int .i64 3, .int .i64 5] W fun e w' => e = .returned .nilIface ∧ Ly1 w q w' [(3, 5)]) := fun q W h => by
    have := h.in_ (hs.below h.below) 3 5
    rw [p1, p2] at this
    exact this
  have H2 : Hid (∀ q W, Ly1 w q W [(3, 5)] → Calls Tryd.prog 7 #[ptrK q, .int .i64 2, .int .i64 7] W fun e w' => e = .returned .nilIface ∧ Ly1 w q w' [(3, 5), (2, 7)]) := fun q W h => by
    have := h.in_ (hs.below h.below) 2 7
    rw [p3, p4] at this
    exact this
  have H3 : Hid (∀ q W, Ly1 w q W [(3, 5), (2, 7)] → Calls Tryd.prog 8 #[ptrK q, .int .i64 4] W fun e w' => e = .returned (.tuple #[.int .i64 22, .nilIface]) ∧ Ly1 w q w' [(1, 7)]) := fun q W h => by
    have := h.out_ (hs.below h.below) 4
    rw [p5, p6, p7] at this
    exact this
  have H4 : Hid (∀ q W, Ly1 w q W [(1, 7)] → Calls Tryd.prog 10 #[ptrK q] W fun e w' => e = .returned (.string ⟨#[49, 64, 55]⟩) ∧ Below W.heap.size W w') := fun q W h => by
    have := h.text_ (hp.below h.below) (by decide)
    rw [cheap_text] at this
    exact this
  clear hs hp p1 p2 p3 p4 p5 p6 p7
  go_enter Tryd.func5, Tryd.ntmps5
  go_wp2_with (first
    | (go_at_call 6; refine HN.out.mono ?_; rintro e w1 ⟨q, rfl, h1⟩; have HL1 : Hid (Ly1 w q w1 []) := h1; clear h1)
    | (go_at_call 7; refine (H1.out _ _ HL1.out).mono ?_; clear H1; rintro e w2 ⟨rfl, h2⟩; have HL2 : Hid (Ly1 w q w2 [(3, 5)]) := h2; clear h2)
    | (go_at_call 7; refine (H2.out _ _ HL2.out).mono ?_; clear H2; rintro e w3 ⟨rfl, h3⟩; have HL3 : Hid (Ly1 w q w3 [(3, 5), (2, 7)]) := h3; clear h3)
    | (go_at_call 8; refine (H3.out _ _ HL3.out).mono ?_; rintro e w4 ⟨rfl, h4⟩; have HL4 : Hid (Ly1 w q w4 [(1, 7)]) := h4; clear h4)
    | (go_at_call 10; refine (H4.out _ _ HL4.out).mono ?_; rintro e w5 ⟨rfl, h5⟩))
  go_ret
  exact ⟨rfl, HL4.out.below.trans (h5.mono HL4.out.below.size)⟩
end Go.Proofs.YtefkchmahcjleaaDoor
