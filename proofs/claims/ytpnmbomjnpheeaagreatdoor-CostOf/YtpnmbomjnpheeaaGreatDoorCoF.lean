/-
 What an entry does to a book and to layers of a code: plain; a book and layers side by side; cost.do.
-/
import Derived.Test.YtpnmbomjnpheeaaGreatDoorJz32
import Derived.Test.YtpnmbomjnpheeaaGreatDoorJz36
import Derived.Test.YtpnmbomjnpheeaaGreatDoorBDoA
set_option maxRecDepth 100000
set_option maxHeartbeats 16000000
namespace Go.Proofs.YtpnmbomjnpheeaaGreatDoor
open Go.RowKit Go.Lib Go.Sort
def stK (b : Bk) (L : List Ly) (e : En) (code : ByteArray) : List Ly × Int × Nat :=
 if (lotAt b e.2.2.1.1).2.1 = code then
  (if e.1 = kIn ∨ e.1 = kMore then (inL L e.2.2.2.2.2 (lotAt b e.2.2.1.1).2.2.2, 0, inE L e.2.2.2.2.2 (lotAt b e.2.2.1.1).2.2.2)
  else if e.1 = kOut ∨ e.1 = kLess then (outL L e.2.2.2.2.2, outN L e.2.2.2.2.2, outE L e.2.2.2.2.2)
  else (L, 0, 0))
 else (L, 0, 0)
def stepK (b : Bk) (L : List Ly) (e : En) (code : ByteArray) : List Ly × Int × Nat := if (doB b e).2 = 0 then stK (doB b e).1 L e code else (L, 0, (doB b e).2)
structure Kb (w0 : World) (x : Bl) (px : Nat) (b : Bk) (m : List Ly) (W : World) : Prop where
 I : IsBk W w0.heap.size x b
 L : ∃ ks, LyAt W w0.heap.size px ks m
 B : Below w0.heap.size w0 W
theorem kind_apart {W : World} {B B' : Nat} {x : Bl} {ps bs px : Nat} {b : Bk} {ks : List Nat} {m : List Ly} (h : BkAt W B x ps bs b) (hl : LyAt W B' px ks m) : ∀ k ∈ px :: ks, ∀ j, j = x.p ∨ j = x.g ∨ j = x.u ∨ j = x.l ∨ j = x.h ∨ j = ps ∨ j = bs → j ≠ k := by
 intro k hk j hj e
 have hkc : ∃ c T, W.heap[k]? = some (.cells c T (0, 0)) ∧ T ≠ 99 ∧ T ≠ 122 := by
  rcases List.mem_cons.1 hk with rfl | hk
  ·exact ⟨_, _, hl.r.top, by decide, by decide⟩
  ·obtain ⟨c, hc⟩ := hl.r.lnk.kind k hk
   exact ⟨c, _, hc, by decide, by decide⟩
 obtain ⟨c, T, hc, n1, n2⟩ := hkc
 have hmap : ∀ {T' : TypeId} {j : Nat} {L : List Ent}, MapL Tryz.prog T' W j L → j ≠ k := fun {T' j L} hm e => by
  obtain ⟨es, cl, h3, _⟩ := hm
  rw [e, hc] at h3
  cases h3
 rcases hj with rfl | rfl | rfl | rfl | rfl | rfl | rfl
 ·have h3 := h.blk
  rw [e, hc] at h3
  injection h3 with h3
  injection h3 with _ h3
  exact n1 h3
 ·exact hmap h.G e
 ·exact hmap h.U e
 ·exact hmap h.L e
 ·exact hmap h.H e
 ·have h3 := h.sblk
  rw [e, hc] at h3
  injection h3 with h3
  injection h3 with _ h3
  exact n2 h3
 ·exact hmap h.S.map e
section
variable {w0 W W' : World} {x : Bl} {px : Nat} {b : Bk} {m : List Ly} {s : Nat → Addr}
theorem Kb.on (h : Kb w0 x px b m W) (hb : Below W.heap.size W W') : Kb w0 x px b m W' := by
 obtain ⟨ks, h1⟩ := h.L
 exact ⟨h.I.below hb, ⟨ks, h1.below hb⟩, h.B.trans (hb.mono h.B.size)⟩
theorem IsBk.offY {B : Nat} (h : IsBk W B x b) {ks : List Nat} (hl : LyAt W B px ks m) (hf : Off (px :: ks) W W') : IsBk W' B x b := by
 obtain ⟨ps, bs, h⟩ := h
 exact ⟨ps, bs, h.of_blocks fun k hk => hf.block k (h.low k hk).2 fun e => kind_apart h hl k e k hk rfl⟩
theorem Kb.do_ (h : Kb w0 x px b m W) {e : En} (hz : SzE e) (hs : Bs W s) :
  Calls Tryz.prog 34 #[.pointer (some ⟨x.p, 0, none⟩), agE e] W fun r w' => r = .returned (errP s (doB b e).2) ∧ Kb w0 x px (doB b e).1 m w' ∧ Off x.all W w' :=
 (bdo_any W s w0.heap.size x b e h.I hz hs).mono fun r w' ⟨r1, r2, r3⟩ => by
  obtain ⟨ks, h1⟩ := h.L
  have hlo := h.I.low
  obtain ⟨ps, bs, hk⟩ := h.I
  refine ⟨r1, ⟨r2, ⟨ks, h1.off r3 fun k hk' e => ?_⟩, h.B.trans (r3.below h.B.size fun k hk' => (hlo k hk').1)⟩, r3⟩
  unfold Bl.all at e
  simp only [List.mem_cons, List.not_mem_nil, or_false] at e
  exact kind_apart hk h1 k hk' k (by rcases e with e | e | e | e | e <;> simp [e]) rfl
theorem Kb.in_ (h : Kb w0 x px b m W) (hs : Cs W s) (n c : Int) :
  Calls Tryz.prog 12 #[ptrK px, .int .i64 n, .int .i64 c] W fun e w' => e = .returned (errP s (inE m n c)) ∧ Kb w0 x px b (inL m n c) w' := by
 obtain ⟨ks, h1⟩ := h.L
 refine (yin_any W s w0.heap.size px ks m n c h1 hs).mono ?_
 rintro e w' ⟨rfl, ks', g1, _, g3⟩
 exact ⟨rfl, h.I.offY h1 g3, ⟨ks', g1⟩, h.B.trans (g3.below h1.base h1.r.lo)⟩
theorem Kb.out_ (h : Kb w0 x px b m W) (hs : Cs W s) (n : Int) :
  Calls Tryz.prog 13 #[ptrK px, .int .i64 n] W fun e w' => e = .returned (.tuple #[.int .i64 (outN m n), errP s (outE m n)]) ∧ Kb w0 x px b (outL m n) w' := by
 obtain ⟨ks, h1⟩ := h.L
 refine (yout_any W s w0.heap.size px ks m n h1 hs).mono ?_
 rintro e w' ⟨rfl, ks', g1, _, g3⟩
 exact ⟨rfl, h.I.offY h1 g3, ⟨ks', g1⟩, h.B.trans (g3.below h1.base h1.r.lo)⟩
end
end Go.Proofs.YtpnmbomjnpheeaaGreatDoor
