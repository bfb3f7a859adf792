/-
  A slice of places among a row's data: the places lie in a row.
-/
import Derived.Test.YtpigcjbjjnaogaaDoorPOpen
import Derived.Test.YtpigcjbjjnaogaaDoorPWalk
import Derived.Deep.Slices
namespace Go.Proofs.YtpigcjbjjnaogaaDoor
open Go.Joins Go.Deep
open Go.Sort Go.Lib
open Go.ChangeShapes Go.WideShapes Go.ChangeAt Go.WideMaps Go.WideElems Go.RowKit

set_option maxRecDepth 100000 in
/-- One place, from its cells. -/
theorem open_place_cells {H : Type} {enc : TypeId × Value → H} {W : World} {base n : Nat} {cs : List Value} {x : DataW H × List MemPlace} {sp : Nat → Bool} {hd : Bool} (hl : cs.length = 3) (h : DataW.trod enc Tryd.prog W base sp hd n 47 cs = some x) :
    ∃ p : Pl, cs = encP p ∧ p.1.size ≤ maxLen := by
  obtain ⟨y0, y1, y2, m, hx, _, h0, h1, h2⟩ := trod_struct3 Tryd.underlying47 h
  match cs, hl with
  | [c0, c1, c2], _ =>
    have k0 : Tryd.prog.cellsOf 9 = 1 := by kernel_rfl
    have k1 : Tryd.prog.cellsOf 3 = 1 := by kernel_rfl
    simp [k0, k1] at h0 h1 h2
    obtain ⟨a, e0, _, wa⟩ := DataW.trod_string Tryd.underlying9 h0
    obtain ⟨r, e1, _, _⟩ := DataW.trod_int Tryd.underlying3 h1
    obtain ⟨b, e2, _, _⟩ := DataW.trod_int Tryd.underlying3 h2
    simp at e0 e1 e2
    subst e0 e1 e2
    exact ⟨(a, r, b), rfl, wa⟩
set_option maxRecDepth 100000 in
theorem open_places {H : Type} {enc : TypeId × Value → H} {W : World} {b0 : Nat} {v : Value} {dd : DataW H} {ps : List MemPlace} {sp : Nat → Bool} {hd : Bool} (hv : Value.okWide Tryd.prog W .any b0 58 v) (h : DataW.Trod enc Tryd.prog W 0 sp hd 58 v dd ps) :
    (∃ ad c, v = .slice ad 0 c) ∨ ∃ b off c d, 1 ≤ d.size ∧ d.size ≤ maxLen ∧ v = .slice (some ⟨b, off, none⟩) d.size c ∧ RowP W b off d ∧ ∀ i, i < d.size → d[i]!.1.size ≤ maxLen := by
  obtain ⟨a0, len, cap, rfl⟩ := okWide_slice Tryd.underlying58 hv
  obtain ⟨fuel, hf⟩ := h
  rcases open_slice Tryd.underlying58 hf with ⟨hcs, _⟩ | ⟨a, len', cap', m, n, D, Pq, hcs, _, hl, hm, hmm, _, hx⟩
  · simp [Value.cells] at hcs
    obtain ⟨rfl, rfl, rfl⟩ := hcs
    exact Or.inl ⟨none, 0, rfl⟩
  · simp [Value.cells] at hcs
    obtain ⟨rfl, rfl, rfl⟩ := hcs
    rcases Nat.eq_zero_or_pos len with rfl | hpos
    · exact Or.inl ⟨_, _, rfl⟩
    · right
      rw [Tryd.cellsPlace] at hx
      have hlm : len ≤ m := by rw [hmm]; split <;> omega
      obtain ⟨f, hfq⟩ := choose_lt (α := Pl) (n := len) (p := fun i p => W.cells? 0 (a.add (i * 3)) 3 = some (encP p) ∧ p.1.size ≤ maxLen) (fun i hi => by
        obtain ⟨cs', h1, h2⟩ := hx i (by omega)
        obtain ⟨_, hlen, _⟩ := World.cells?_some h1
        obtain ⟨p, rfl, hp⟩ := open_place_cells hlen h2
        exact ⟨p, h1, hp⟩)
      have hcell : ∀ i c, i < len → c < 3 → W.cell? (a.add (i * 3 + c)) = some ((encP (f i))[c]!) := by
        intro i c hi hc
        have := (World.cells?_some (hfq i hi).1).2.2 c hc
        rw [add_add] at this
        rw [this, List.getElem?_eq_getElem (by rw [encP_len]; exact hc), getElem!_pos _ c (by rw [encP_len]; exact hc)]
      have hsp : a.spot = none := by
        have := World.cell?_spot (hcell 0 0 hpos (by decide))
        simpa [Addr.add] using this
      obtain ⟨b, off, spot⟩ := a
      simp only at hsp
      subst hsp
      have hsz : ((Array.range len).map f).size = len := by simp
      have hget : ∀ i, i < len → ((Array.range len).map f)[i]! = f i := fun i hi => by
        rw [getElem!_pos _ i (by rw [hsz]; exact hi)]; simp
      refine ⟨b, off, cap, (Array.range len).map f, by rw [hsz]; exact hpos, by rw [hsz]; omega, by rw [hsz], ?_, ?_⟩
      · intro j hj
        rw [hsz] at hj
        rw [get_flatK encP 3 _ j (by rw [hsz]; exact hj), hget (j / 3) (by omega)]
        have := hcell (j / 3) (j % 3) (by omega) (Nat.mod_lt _ (by decide))
        rw [WideShapes.add_plain, show j / 3 * 3 + j % 3 = j by omega] at this
        exact this
      · intro i hi
        rw [hsz] at hi
        rw [hget i hi]
        exact (hfq i hi).2
end Go.Proofs.YtpigcjbjjnaogaaDoor
