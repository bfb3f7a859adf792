/-
  A lot among a row's data, down and up again; a slice of lots: the lots lie in a row.
-/
import Derived.Test.YtdlacmfejlmpdabDoorLSorts
import Derived.ProofKit
import Derived.OpenShut
import Derived.Stop.Joined
import Derived.Lib.SmallJoins
import Derived.Deep.Slices
namespace Go.Proofs.YtdlacmfejlmpdabDoor
open Go.Joins Go.Deep
open Go.Sort Go.Lib
open Go.ChangeMaps (open_string shut_string)
open Go.ChangeShapes Go.WideShapes Go.ChangeAt Go.WideMaps Go.WideElems Go.RowKit

theorem Tryd.cellsLot : Tryd.prog.cellsOf 23 = 4 := by kernel_rfl
/-- The datum of a lot. -/
abbrev datL {H : Type} (x : Lo) : DataW H := .agg [.lit (.string x.1.data.toList), .lit (.string x.2.1.data.toList), .lit (.int .i64 x.2.2.1), .lit (.int .i64 x.2.2.2)]
/-- What a lot that was read keeps. -/
def WfL (x : Lo) : Prop := x.1.size ≤ maxLen ∧ x.2.1.size ≤ maxLen ∧ (Lit.int .i64 x.2.2.1).wf = true ∧ (Lit.int .i64 x.2.2.2).wf = true
set_option maxRecDepth 100000 in
theorem open_lot {H : Type} {enc : TypeId × Value → H} {W : World} {base b0 : Nat} {v : Value} {d : DataW H} {p : List MemPlace} {sp : Nat → Bool} {hd : Bool} (hv : Value.okWide Tryd.prog W .any b0 23 v) (h : DataW.Trod enc Tryd.prog W base sp hd 23 v d p) :
    ∃ x : Lo, v = agL x ∧ d = datL x ∧ p = [] ∧ WfL x := by
  obtain ⟨c0, c1, c2, c3, y0, y1, y2, y3, m, rfl, rfl, rfl, hy0, hy1, hy2, hy3⟩ := open_agg4 Tryd.underlying23 (by kernel_rfl) Tryd.cellsLot hv h
  obtain ⟨a, e0, rfl, wa⟩ := DataW.trod_string Tryd.underlying9 hy0
  obtain ⟨c, e1, rfl, wc⟩ := DataW.trod_string Tryd.underlying9 hy1
  obtain ⟨u, e2, rfl, wu⟩ := DataW.trod_int Tryd.underlying3 hy2
  obtain ⟨k, e3, rfl, wk⟩ := DataW.trod_int Tryd.underlying3 hy3
  simp at e0 e1 e2 e3
  subst e0 e1 e2 e3
  exact ⟨(a, c, u, k), rfl, rfl, rfl, wa, wc, wu, wk⟩
set_option maxRecDepth 100000 in
theorem shut_lot {H : Type} {enc : TypeId × Value → H} {W : World} {base : Nat} {sp : Nat → Bool} {hd : Bool} {x : Lo} (wf : WfL x) :
    DataW.Trod enc Tryd.prog W base sp hd 23 (agL x) (datL x) [] := by
  obtain ⟨wa, wc, wu, wk⟩ := wf
  exact shut_agg4 (y0 := (.lit (.string x.1.data.toList), [])) (y1 := (.lit (.string x.2.1.data.toList), [])) (y2 := (.lit (.int .i64 x.2.2.1), [])) (y3 := (.lit (.int .i64 x.2.2.2), [])) Tryd.underlying23 (by kernel_rfl) Tryd.cellsLot ⟨1, by simp [DataW.trod, Tryd.underlying9, wa]⟩ ⟨1, by simp [DataW.trod, Tryd.underlying9, wc]⟩ ⟨1, by simp [DataW.trod, Tryd.underlying3, wu]⟩ ⟨1, by simp [DataW.trod, Tryd.underlying3, wk]⟩
set_option maxRecDepth 100000 in
/-- One lot, from its cells. -/
theorem open_lot_cells {H : Type} {enc : TypeId × Value → H} {W : World} {base n : Nat} {cs : List Value} {x : DataW H × List MemPlace} {sp : Nat → Bool} {hd : Bool} (hl : cs.length = 4) (h : DataW.trod enc Tryd.prog W base sp hd n 23 cs = some x) :
    ∃ p : Lo, cs = encL p := by
  obtain ⟨y0, y1, y2, y3, m, hx, _, h0, h1, h2, h3⟩ := trod_struct4 Tryd.underlying23 h
  match cs, hl with
  | [c0, c1, c2, c3], _ =>
    have k0 : Tryd.prog.cellsOf 9 = 1 := by kernel_rfl
    have k1 : Tryd.prog.cellsOf 3 = 1 := by kernel_rfl
    simp [k0, k1] at h0 h1 h2 h3
    obtain ⟨a, e0, _, _⟩ := DataW.trod_string Tryd.underlying9 h0
    obtain ⟨c, e1, _, _⟩ := DataW.trod_string Tryd.underlying9 h1
    obtain ⟨u, e2, _, _⟩ := DataW.trod_int Tryd.underlying3 h2
    obtain ⟨k, e3, _, _⟩ := DataW.trod_int Tryd.underlying3 h3
    simp at e0 e1 e2 e3
    subst e0 e1 e2 e3
    exact ⟨(a, c, u, k), rfl⟩
set_option maxRecDepth 100000 in
theorem open_lots {H : Type} {enc : TypeId × Value → H} {W : World} {b0 : Nat} {v : Value} {dd : DataW H} {ps : List MemPlace} {sp : Nat → Bool} {hd : Bool} (hv : Value.okWide Tryd.prog W .any b0 40 v) (h : DataW.Trod enc Tryd.prog W 0 sp hd 40 v dd ps) :
    (∃ ad c, v = .slice ad 0 c) ∨ ∃ b off c d, 1 ≤ d.size ∧ d.size ≤ maxLen ∧ v = .slice (some ⟨b, off, none⟩) d.size c ∧ RowL W b off d := by
  obtain ⟨a0, len, cap, rfl⟩ := okWide_slice Tryd.underlying40 hv
  obtain ⟨fuel, hf⟩ := h
  rcases open_slice Tryd.underlying40 hf with ⟨hcs, _⟩ | ⟨a, len', cap', m, n, D, Pq, hcs, _, hl, hm, hmm, _, hx⟩
  · simp [Value.cells] at hcs
    obtain ⟨rfl, rfl, rfl⟩ := hcs
    exact Or.inl ⟨none, 0, rfl⟩
  · simp [Value.cells] at hcs
    obtain ⟨rfl, rfl, rfl⟩ := hcs
    rcases Nat.eq_zero_or_pos len with rfl | hpos
    · exact Or.inl ⟨_, _, rfl⟩
    · right
      rw [Tryd.cellsLot] at hx
      have hlm : len ≤ m := by rw [hmm]; split <;> omega
      obtain ⟨f, hfq⟩ := choose_lt (α := Lo) (n := len) (p := fun i p => W.cells? 0 (a.add (i * 4)) 4 = some (encL p)) (fun i hi => by
        obtain ⟨cs', h1, h2⟩ := hx i (by omega)
        obtain ⟨_, hlen, _⟩ := World.cells?_some h1
        obtain ⟨p, rfl⟩ := open_lot_cells hlen h2
        exact ⟨p, h1⟩)
      have hcell : ∀ i c, i < len → c < 4 → W.cell? (a.add (i * 4 + c)) = some ((encL (f i))[c]!) := by
        intro i c hi hc
        have := (World.cells?_some (hfq i hi)).2.2 c hc
        rw [add_add] at this
        rw [this, List.getElem?_eq_getElem (by rw [encL_len]; exact hc), getElem!_pos _ c (by rw [encL_len]; exact hc)]
      have hsp : a.spot = none := by
        have := World.cell?_spot (hcell 0 0 hpos (by decide))
        simpa [Addr.add] using this
      obtain ⟨b, off, spot⟩ := a
      simp only at hsp
      subst hsp
      have hsz : ((Array.range len).map f).size = len := by simp
      have hget : ∀ i, i < len → ((Array.range len).map f)[i]! = f i := fun i hi => by
        rw [getElem!_pos _ i (by rw [hsz]; exact hi)]; simp
      refine ⟨b, off, cap, (Array.range len).map f, by rw [hsz]; exact hpos, by rw [hsz]; omega, by rw [hsz], ?_⟩
      intro j hj
      rw [hsz] at hj
      rw [get_flatK encL 4 _ j (by rw [hsz]; exact hj), hget (j / 4) (by omega)]
      have := hcell (j / 4) (j % 4) (by omega) (Nat.mod_lt _ (by decide))
      rw [WideShapes.add_plain, show j / 4 * 4 + j % 4 = j by omega] at this
      exact this
end Go.Proofs.YtdlacmfejlmpdabDoor
