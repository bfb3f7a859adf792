/-
  CostLayers at any input.
-/
import Derived.Test.YtefkchmahcjleaaDoorCoP
namespace Go.Proofs.YtefkchmahcjleaaDoor
open Go.RowKit Go.Lib Go.Sort

set_option maxRecDepth 100000 in
set_option maxHeartbeats 2000000 in
theorem costLayers_out (pp : Option Addr) (n cap : Nat) (w : World) (s : Nat → Addr) (hs : Sent w s) (hp : Pow w) (hn : n ≤ maxLen) (hx : 60 < n) :
    Calls Tryd.prog 4 #[.slice pp n cap] w fun r w' => r = .returned (.bool true) ∧ Below w.heap.size w w' := by
  have HCh : Hid (Calls Tryd.prog 5 #[] w _) := cheap_any w s hs.cs hp
  unfold maxLen at hn
  clear hs hp
  go_enter Tryd.func4, Tryd.ntmps4
  go_wp2_with (go_at_call 5; refine HCh.out.mono ?_; rintro e w1 ⟨rfl, hb1⟩)
  go_ret
  exact ⟨rfl, hb1⟩
/-- CostLayers. -/
theorem costLayers_any (v : Value) (w : World) (s : Nat → Addr) (hs : Sent w s) (hh : Handle w) (hp : Pow w) (ho : (∃ ad c, v = .slice ad 0 c) ∨ ∃ b off c l, 1 ≤ l.length ∧ l.length ≤ maxLen ∧ v = .slice (some ⟨b, off, none⟩) l.length c ∧ RowF w b off l) :
    Calls Tryd.prog 4 #[v] w fun r w' => r = .returned (.bool true) ∧ Below w.heap.size w w' := by
  rcases ho with ⟨ad, c, rfl⟩ | ⟨bq, off, c, l, h1, hm, rfl, hE⟩
  · exact costLayers_in ad [] c w s hs hh hp (Or.inl rfl) (by decide)
  · by_cases hx : l.length ≤ 60
    · exact costLayers_in _ l c w s hs hh hp (Or.inr ⟨bq, off, rfl, hE⟩) hx
    · exact costLayers_out _ l.length c w s hs hp hm (by omega)
end Go.Proofs.YtefkchmahcjleaaDoor
