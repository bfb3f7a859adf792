/-
  A slice of flows as an argument, opened; CostKeeps at any input.
-/
import Derived.Test.YtefkchmahcjleaaDoorCoL
import Derived.ProofKit
import Derived.OpenShut
import Derived.Stop.Joined
import Derived.Lib.SmallJoins
import Derived.Deep.Slices
namespace Go.Proofs.YtefkchmahcjleaaDoor
open Go.Joins Go.Deep
open Go.Sort Go.Lib
open Go.ChangeMaps (open_string shut_string)
open Go.ChangeShapes Go.WideShapes Go.ChangeAt Go.WideMaps Go.WideElems Go.RowKit

theorem pick_lt {α : Type} [Inhabited α] {n : Nat} {p : Nat → α → Prop} (h : ∀ i, i < n → ∃ x, p i x) : ∃ f : Nat → α, ∀ i, i < n → p i (f i) := by
  refine ⟨fun i => if hi : i < n then (h i hi).choose else default, fun i hi => ?_⟩
  simp only [dif_pos hi]
  exact (h i hi).choose_spec
theorem Tryd.cFlo : Tryd.prog.cellsOf 27 = 2 := by kernel_rfl
theorem Tryd.cIntF : Tryd.prog.cellsOf 3 = 1 := by kernel_rfl
/-- A flow's cells as a list. -/
def encFl (x : Ly) : List Value := [.int .i64 x.1, .int .i64 x.2]
set_option maxRecDepth 100000 in
theorem open_flow_cells {H : Type} {enc : TypeId × Value → H} {W : World} {base n : Nat} {cs : List Value} {x : DataW H × List MemPlace} {sp : Nat → Bool} {hd : Bool} (hl : cs.length = 2) (h : DataW.trod enc Tryd.prog W base sp hd n 27 cs = some x) : ∃ e : Ly, cs = encFl e := by
  match cs, hl with
  | [c0, c1], _ =>
    obtain ⟨xs, m, _, _, _, hlen, hg⟩ := DataW.trod_struct Tryd.underlying27 h
    match xs, hlen with
    | [y0, y1], _ =>
      have h0 := hg 0 _ rfl
      have h1 := hg 1 _ rfl
      simp [Tryd.cIntF] at h0 h1
      obtain ⟨n0, e0, _, _⟩ := DataW.trod_int Tryd.underlying3 h0
      obtain ⟨n1, e1, _, _⟩ := DataW.trod_int Tryd.underlying3 h1
      simp at e0 e1
      subst e0 e1
      exact ⟨(n0, n1), rfl⟩
set_option maxRecDepth 100000 in
theorem open_flows {H : Type} {enc : TypeId × Value → H} {W : World} {b0 : Nat} {v : Value} {dd : DataW H} {ps : List MemPlace} {sp : Nat → Bool} {hd : Bool} (hv : Value.okWide Tryd.prog W .any b0 22 v) (h : DataW.Trod enc Tryd.prog W 0 sp hd 22 v dd ps) :
    (∃ ad c, v = .slice ad 0 c) ∨ ∃ b off c l, 1 ≤ l.length ∧ l.length ≤ maxLen ∧ v = .slice (some ⟨b, off, none⟩) l.length c ∧ RowF W b off l := by
  obtain ⟨a0, len, cap, rfl⟩ := okWide_slice Tryd.underlying22 hv
  obtain ⟨fuel, hf⟩ := h
  rcases open_slice Tryd.underlying22 hf with ⟨hcs, _⟩ | ⟨a, len', cap', m, n, D, Pq, hcs, _, hl, hm, hmm, _, hx⟩
  · simp [Value.cells] at hcs
    obtain ⟨rfl, rfl, rfl⟩ := hcs
    exact Or.inl ⟨none, 0, rfl⟩
  · simp [Value.cells] at hcs
    obtain ⟨rfl, rfl, rfl⟩ := hcs
    rcases Nat.eq_zero_or_pos len with rfl | hpos
    · exact Or.inl ⟨_, _, rfl⟩
    · right
      rw [Tryd.cFlo] at hx
      have hlm : len ≤ m := by rw [hmm]; split <;> omega
      obtain ⟨f, hfq⟩ := pick_lt (α := Ly) (n := len) (p := fun i e => W.cells? 0 (a.add (i * 2)) 2 = some (encFl e)) (fun i hi => by
        obtain ⟨cs', h1, h2⟩ := hx i (by omega)
        obtain ⟨_, hlen, _⟩ := World.cells?_some h1
        obtain ⟨e, rfl⟩ := open_flow_cells hlen h2
        exact ⟨e, h1⟩)
      have hcell : ∀ i c, i < len → c < 2 → W.cell? (a.add (i * 2 + c)) = (encFl (f i))[c]? := by
        intro i c hi hc
        have := (World.cells?_some (hfq i hi)).2.2 c hc
        rw [add_add] at this
        exact this
      have hsp : a.spot = none := by
        have := World.cell?_spot (hcell 0 0 hpos (by decide))
        simpa [Addr.add] using this
      obtain ⟨b, off, spot⟩ := a
      simp only at hsp
      subst hsp
      have hsz : ((List.range len).map f).length = len := by simp
      have hget : ∀ i e, ((List.range len).map f)[i]? = some e → i < len ∧ e = f i := fun i e he => by
        have hi := (List.getElem?_eq_some_iff.1 he).1
        rw [hsz] at hi
        refine ⟨hi, ?_⟩
        rw [List.getElem?_map, List.getElem?_range hi] at he
        simpa using he.symm
      refine ⟨b, off, cap, (List.range len).map f, by rw [hsz]; exact hpos, by rw [hsz]; omega, by rw [hsz], fun k e he => ?_⟩
      obtain ⟨hk, rfl⟩ := hget k e he
      have hc : ∀ c, c < 2 → W.cell? ⟨b, off + k * 2 + c, none⟩ = (encFl (f k))[c]? := fun c hc => by
        have := hcell k c hk hc
        rw [WideShapes.add_plain, ← Nat.add_assoc] at this
        exact this
      exact ⟨hc 0 (by decide), hc 1 (by decide)⟩
set_option maxRecDepth 100000 in
set_option maxHeartbeats 2000000 in
theorem costKeeps_out (pp : Option Addr) (n cap : Nat) (a b : Int) (w : World) (s : Nat → Addr) (hs : Cs w s) (hp : Pow w) (hn : n ≤ maxLen) (hx : ¬ (n ≤ 60 ∧ 1 ≤ a ∧ a ≤ 549755813888 ∧ 1 ≤ b ∧ b ≤ 549755813888)) :
    Calls Tryd.prog 3 #[.slice pp n cap, .int .i64 a, .int .i64 b] w fun r w' => r = .returned (.bool true) ∧ Below w.heap.size w w' := by
  have HCh : Hid (Calls Tryd.prog 5 #[] w _) := cheap_any w s hs hp
  unfold maxLen at hn
  clear hs hp
  by_cases h1 : 60 < n
  · clear hx
    go_enter Tryd.func3, Tryd.ntmps3
    go_wp2_with (go_at_call 5; refine HCh.out.mono ?_; rintro e w1 ⟨rfl, hb1⟩)
    go_ret
    exact ⟨rfl, hb1⟩
  · by_cases h2 : a < 1
    · clear hx
      go_enter Tryd.func3, Tryd.ntmps3
      go_wp2_with (go_at_call 5; refine HCh.out.mono ?_; rintro e w1 ⟨rfl, hb1⟩)
      go_ret
      exact ⟨rfl, hb1⟩
    · by_cases h3 : b < 1
      · clear hx
        go_enter Tryd.func3, Tryd.ntmps3
        go_wp2_with (go_at_call 5; refine HCh.out.mono ?_; rintro e w1 ⟨rfl, hb1⟩)
        go_ret
        exact ⟨rfl, hb1⟩
      · by_cases h4 : 549755813888 < a
        · clear hx
          go_enter Tryd.func3, Tryd.ntmps3
          go_wp2_with (go_at_call 5; refine HCh.out.mono ?_; rintro e w1 ⟨rfl, hb1⟩)
          go_ret
          exact ⟨rfl, hb1⟩
        · have h5 : 549755813888 < b := by omega
          clear hx
          go_enter Tryd.func3, Tryd.ntmps3
          go_wp2_with (go_at_call 5; refine HCh.out.mono ?_; rintro e w1 ⟨rfl, hb1⟩)
          go_ret
          exact ⟨rfl, hb1⟩
/-- CostKeeps. -/
theorem costKeeps_any (v : Value) (a b : Int) (w : World) (s : Nat → Addr) (hs : Cs w s) (hp : Pow w) (ho : (∃ ad c, v = .slice ad 0 c) ∨ ∃ b off c l, 1 ≤ l.length ∧ l.length ≤ maxLen ∧ v = .slice (some ⟨b, off, none⟩) l.length c ∧ RowF w b off l) :
    Calls Tryd.prog 3 #[v, .int .i64 a, .int .i64 b] w fun r w' => r = .returned (.bool true) ∧ Below w.heap.size w w' := by
  rcases ho with ⟨ad, c, rfl⟩ | ⟨bq, off, c, l, h1, hm, rfl, hE⟩
  · by_cases hx : 0 ≤ 60 ∧ 1 ≤ a ∧ a ≤ 549755813888 ∧ 1 ≤ b ∧ b ≤ 549755813888
    · exact costKeeps_in ad [] c a b w s hs hp (Or.inl rfl) (by decide) hx.2.1 hx.2.2.1 hx.2.2.2.1 hx.2.2.2.2
    · exact costKeeps_out ad 0 c a b w s hs hp (by decide) hx
  · by_cases hx : l.length ≤ 60 ∧ 1 ≤ a ∧ a ≤ 549755813888 ∧ 1 ≤ b ∧ b ≤ 549755813888
    · exact costKeeps_in _ l c a b w s hs hp (Or.inr ⟨bq, off, rfl, hE⟩) hx.1 hx.2.1 hx.2.2.1 hx.2.2.2.1 hx.2.2.2.2
    · exact costKeeps_out _ l.length c a b w s hs hp hm hx
end Go.Proofs.YtefkchmahcjleaaDoor
