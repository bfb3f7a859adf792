/-
 The book behind the first entries of a list, in plain words; it is well, and its sums are those of its pieces.
-/
import Derived.Test.YtppodkkefegbkaaGreatDoorJz14
import Derived.Test.YtppodkkefegbkaaGreatDoorJz13
import Derived.ProofKit
import Derived.OpenShut
import Derived.Stop.Joined
import Derived.Lib.SmallJoins
import Derived.Deep.Slices
set_option maxRecDepth 100000
set_option maxHeartbeats 16000000
namespace Go.Proofs.YtppodkkefegbkaaGreatDoor
open Go.RowKit Go.Lib Go.Sort
def bkTo (l : List En) : Nat → Bk
 | 0 => ([], [], [])
 | k + 1 => match l[k]? with
  | some e => (doB (bkTo l k) e).1
  | none => bkTo l k
theorem bkTo_succ {l : List En} {k : Nat} {e : En} (h : l[k]? = some e) : bkTo l (k + 1) = (doB (bkTo l k) e).1 := by
 show (match l[k]? with | some e => (doB (bkTo l k) e).1 | none => bkTo l k) = _
 rw [h]
theorem bkTo_ok (l : List En) : ∀ k, BkOk (bkTo l k)
 | 0 => BkOk.nil
 | k + 1 => by
  cases h : l[k]? with
  | none =>
   have e : bkTo l (k + 1) = bkTo l k := by
    show (match l[k]? with | some e => (doB (bkTo l k) e).1 | none => bkTo l k) = _
    rw [h]
   rw [e]; exact bkTo_ok l k
  | some e => rw [bkTo_succ h]; exact (bkTo_ok l k).do_ e
end Go.Proofs.YtppodkkefegbkaaGreatDoor
namespace Go.Proofs.YtppodkkefegbkaaGreatDoor
open Go.Joins Go.Deep
open Go.Sort Go.Lib
open Go.ChangeMaps (open_string shut_string)
open Go.ChangeShapes Go.WideShapes Go.ChangeAt Go.WideMaps Go.WideElems Go.RowKit
def encEn (e : En) : List Value := [.string e.1, .string e.2.1.1, .int .i64 e.2.1.2, .string e.2.2.1.1, .string e.2.2.1.2.1, .int .i64 e.2.2.1.2.2.1, .int .i64 e.2.2.1.2.2.2, .string e.2.2.2.1.1, .int .i64 e.2.2.2.1.2.1, .int .i64 e.2.2.2.1.2.2, .string e.2.2.2.2.1.1, .int .i64 e.2.2.2.2.1.2.1, .int .i64 e.2.2.2.2.1.2.2, .int .i64 e.2.2.2.2.2]
theorem open_ent_cells {H : Type} {enc : TypeId × Value → H} {W : World} {base n : Nat} {cs : List Value} {x : DataW H × List MemPlace} {sp : Nat → Bool} {hd : Bool} (hl : cs.length = 14) (h : DataW.trod enc Tryz.prog W base sp hd n 43 cs = some x) :
  ∃ e : En, cs = encEn e ∧ SzE e := by
 match cs, hl with
 | [c0, c1, c2, c3, c4, c5, c6, c7, c8, c9, c10, c11, c12, c13], _ =>
  obtain ⟨xs, m, _, _, _, hlen, hg⟩ := DataW.trod_struct Tryz.underlying43 h
  match xs, hlen with
  | [y0, y1, y2, y3, y4, y5], _ =>
   have h0 := hg 0 _ rfl
   have h1 := hg 1 _ rfl
   have h2 := hg 2 _ rfl
   have h3 := hg 3 _ rfl
   have h4 := hg 4 _ rfl
   have h5 := hg 5 _ rfl
   simp [Tryz.cStr, Tryz.cInt, Tryz.cPla, Tryz.cGoo, Tryz.cLot] at h0 h1 h2 h3 h4 h5
   obtain ⟨k, e0, _, wk⟩ := DataW.trod_string Tryz.underlying9 h0
   obtain ⟨g, g0, g1, wg⟩ := open_gd h1
   obtain ⟨o, o0, o1, o2, o3, wo0, wo1⟩ := open_lo h2
   obtain ⟨f, f0, f1, f2, wf⟩ := open_pl h3
   obtain ⟨t, t0, t1, t2, wt⟩ := open_pl h4
   obtain ⟨n, e5, _, wn⟩ := DataW.trod_int Tryz.underlying3 h5
   simp at e0 e5
   subst e0 e5 g0 g1 o0 o1 o2 o3 f0 f1 f2 t0 t1 t2
   exact ⟨(k, g, o, f, t, n), rfl, ⟨wk, wg, wo0, wo1, wf, wt⟩⟩
theorem open_ents {H : Type} {enc : TypeId × Value → H} {W : World} {b0 : Nat} {v : Value} {dd : DataW H} {ps : List MemPlace} {sp : Nat → Bool} {hd : Bool} (hv : Value.okWide Tryz.prog W .any b0 22 v) (h : DataW.Trod enc Tryz.prog W 0 sp hd 22 v dd ps) :
  (∃ ad c, v = .slice ad 0 c) ∨ ∃ b off c l, 1 ≤ l.length ∧ l.length ≤ maxLen ∧ v = .slice (some ⟨b, off, none⟩) l.length c ∧ Ents W b off l ∧ ∀ e ∈ l, SzE e := by
 obtain ⟨a0, len, cap, rfl⟩ := okWide_slice Tryz.underlying22 hv
 obtain ⟨fuel, hf⟩ := h
 rcases open_slice Tryz.underlying22 hf with ⟨hcs, _⟩ | ⟨a, len', cap', m, n, D, Pq, hcs, _, hl, hm, hmm, _, hx⟩
 ·simp [Value.cells] at hcs
  obtain ⟨rfl, rfl, rfl⟩ := hcs
  exact Or.inl ⟨none, 0, rfl⟩
 ·simp [Value.cells] at hcs
  obtain ⟨rfl, rfl, rfl⟩ := hcs
  rcases Nat.eq_zero_or_pos len with rfl | hpos
  ·exact Or.inl ⟨_, _, rfl⟩
  ·right
   rw [Tryz.cEnt] at hx
   have hlm : len ≤ m := by rw [hmm]; split <;> omega
   obtain ⟨f, hfq⟩ := choose_lt (α := En) (n := len) (p := fun i e => W.cells? 0 (a.add (i * 14)) 14 = some (encEn e) ∧ SzE e) (fun i hi => by
    obtain ⟨cs', h1, h2⟩ := hx i (by omega)
    obtain ⟨_, hlen, _⟩ := World.cells?_some h1
    obtain ⟨e, rfl, hz⟩ := open_ent_cells hlen h2
    exact ⟨e, h1, hz⟩)
   have hcell : ∀ i c, i < len → c < 14 → W.cell? (a.add (i * 14 + c)) = (encEn (f i))[c]? := by
    intro i c hi hc
    have := (World.cells?_some (hfq i hi).1).2.2 c hc
    rw [add_add] at this
    exact this
   have hsp : a.spot = none := by
    have := World.cell?_spot (hcell 0 0 hpos (by decide))
    simpa [Addr.add] using this
   obtain ⟨b, off, spot⟩ := a
   simp only at hsp
   subst hsp
   have hsz : ((List.range len).map f).length = len := by simp
   have hget : ∀ i e, ((List.range len).map f)[i]? = some e → i < len ∧ e = f i := fun i e he => by
    have hi := (List.getElem?_eq_some_iff.1 he).1
    rw [hsz] at hi
    refine ⟨hi, ?_⟩
    rw [List.getElem?_map, List.getElem?_range hi] at he
    simpa using he.symm
   refine ⟨b, off, cap, (List.range len).map f, by rw [hsz]; exact hpos, by rw [hsz]; omega, by rw [hsz], ⟨?_, ?_⟩, ?_⟩
   ·have := hcell 0 0 hpos (by decide)
    rw [WideShapes.add_plain] at this
    exact cell_lt (this.trans rfl)
   ·intro k e he
    obtain ⟨hk, rfl⟩ := hget k e he
    have hc : ∀ c, c < 14 → W.cell? ⟨b, off + k * 14 + c, none⟩ = (encEn (f k))[c]? := fun c hc => by
     have := hcell k c hk hc
     rw [WideShapes.add_plain, ← Nat.add_assoc] at this
     exact this
    exact ⟨hc 0 (by decide), hc 1 (by decide), hc 2 (by decide), hc 3 (by decide), hc 4 (by decide), hc 5 (by decide), hc 6 (by decide), hc 7 (by decide), hc 8 (by decide), hc 9 (by decide), hc 10 (by decide), hc 11 (by decide), hc 12 (by decide), hc 13 (by decide)⟩
   ·intro e he
    obtain ⟨k, hk⟩ := List.getElem?_of_mem he
    obtain ⟨hk', rfl⟩ := hget k e hk
    exact (hfq k hk').2
end Go.Proofs.YtppodkkefegbkaaGreatDoor
