/-
  What the reference's Cut answers: a slice of the pieces, in memory of the call's own; condition: the text has at most 100,000 bytes.
-/
import Derived.Test.YtefkchmahcjleaaDoorSplit
import Derived.Deep.AppendLies
import Derived.WalkKit
namespace Go.Proofs.YtefkchmahcjleaaDoor
open Go.RowKit Go.Lib Go.Sort

theorem Tryd.infoStr : (Tryd.prog.info? 9).map (fun i => (i.zero, i.size, i.bytes)) = some (some (.string ⟨#[]⟩), 1, 16) := by kernel_rfl
theorem one_cell {W : World} (v : Value) (t n : Nat) (hn : n = W.heap.size) : ∀ j u, [v][j]? = some u → (W.alloc (.cells #[v] t)).cell? ((⟨n, 0, none⟩ : Addr).add j) = some u := by
  intro j u hj
  match j, hj with
  | 0, hj =>
    simp at hj
    subst hj
    subst hn
    simp [Addr.add]
theorem one_one (s : ByteArray) : ∀ u ∈ [Value.string s], u.oneCell' = true := by
  intro u hu; simp at hu; subst hu; rfl
/-- What a round's append leaves. -/
theorem cut_step {w wr w1 : World} {v : Value} {n : Nat} {xs : List Value} {o : Obj} {base : Nat} (hb : Below w.heap.size w wr) (hown : wr.ownsRow w.heap.size base 1 v n xs) (hg : (wr.alloc o).grownBy w1 v.ownBlock) : Below w.heap.size w w1 := by
  refine (hb.alloc hb.size o).grown hg (by have := hb.size; simp; omega) ?_
  intro k hk
  rcases hown.2 with ⟨rfl, _⟩ | ⟨g, cap, cur, rfl, hg', _⟩
  · simp [Value.ownBlock] at hk
  · simp [Value.ownBlock] at hk; omega

end Go.Proofs.YtefkchmahcjleaaDoor
