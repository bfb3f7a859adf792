/-
  From what a row lists of package-level variables to what the walks ask: the twelve sentinels' pointers, none twice, and errors.errorType.
-/
import Derived.Test.YtcipbkaopnaiiacDoorRows
import Derived.Test.YtcipbkaopnaiiacDoorBzA
import Derived.LaidLaws
import Derived.LaidHandle
import Derived.Stop.LaidErr
namespace Go.Proofs.YtcipbkaopnaiiacDoor
open Go.ChangeShapes Go.WideShapes Go.RowKit

theorem Tryd.own : ownKnob Tryd.prog.godebug = none := by kernel_rfl
theorem Tryd.cellsE : Tryd.prog.cellsOf 119 = 1 := by kernel_rfl
theorem Tryd.cellsS : Tryd.prog.cellsOf 9 = 1 := by kernel_rfl
theorem Tryd.star : "*" ++ "errors.errorString" = "*errors.errorString" := by decide
theorem Tryd.rowE (u : TypeId) (h : Tryd.prog.typeName? 3 u = some "*errors.errorString") : u = 102 :=
  typeName_ptr_named (nm := "errors.errorString") (by rw [Tryd.star]; kernel_rfl) (by kernel_rfl) (by decide) u (by rw [Tryd.star]; exact h)

/-- An error of errors.New, read through. -/
abbrev errD (text : List UInt8) : DataW Unit := .iface "*errors.errorString" (.ptr (.agg [.lit (.string text)]))
def SentRow (W : World) (g : Nat) (a : Addr) : Prop := W.cell? ⟨g, 0, none⟩ = some (err a) ∧ ∃ c t, W.heap[a.block]? = some (.cells c t (0, 0))

set_option maxRecDepth 100000 in
theorem sents_of_laid {W : World} : ∀ (l : List (Nat × String × List UInt8)) (ps : List MemPlace), (∀ x ∈ l, Tryd.prog.globalNamed x.2.1 = some x.1 ∧ (Tryd.prog.globals[x.1]?).map (·.type) = some 33) →
    DataW.LaidVars Tryd.prog W (l.map fun x => (x.2.1, errD x.2.2)) ps → ps.Nodup →
    (∀ b off, MemPlace.cell b off ∈ ps → (∃ c t, W.heap[b]? = some (.cells c t (0, 0))) ∧ ∀ u v, W.cell? ⟨b, off, none⟩ = some (.iface u v) → Value.okWide Tryd.prog W .any 0 u v) →
    ∃ al : List Addr, al.length = l.length ∧ (∀ a ∈ al, MemPlace.cell a.block a.off ∈ ps) ∧ al.Nodup ∧ ∀ i, i < l.length → SentRow W (l.getD i (0, default, [])).1 (al.getD i ⟨0, 0, none⟩)
  | [], _, _, _, _, _ => ⟨[], rfl, (fun a h => by cases h), List.nodup_nil, fun i h => absurd h (Nat.not_lt_zero _)⟩
  | x :: l, ps, hx, hl, hnd, hrows => by
    obtain ⟨g, t, cs, fuel, p, q, hg, ht, hv, hd, hq, rfl⟩ := hl
    obtain ⟨hg', ht'⟩ := hx x (List.mem_cons_self ..)
    obtain rfl := Option.some.inj (hg'.symm.trans hg)
    obtain rfl := Option.some.inj (ht'.symm.trans ht)
    obtain ⟨cl⟩ := cs
    have ok : ∀ u v, cl = [.iface u v] → Value.okWide Tryd.prog W .any 0 u v := fun u v e => by
      subst e
      exact (hrows x.1 0 (by simp [MemPlace.row])).2 u v (by simpa using World.var?_cell hg hv 0)
    obtain ⟨a, s0, rfl, hc0, hs0, hz0, rfl⟩ := errorString_of_trod Tryd.underlying33 Tryd.rowE Tryd.underlying102 Tryd.underlying119 rfl rfl Tryd.underlying9 Tryd.cellsE Tryd.cellsS hd ok
    obtain ⟨al, hlen, hmem, hasnd, hrow⟩ := sents_of_laid l q (fun y hy => hx y (List.mem_cons_of_mem _ hy)) hq (List.Nodup.sublist (List.sublist_append_right _ _) hnd) (fun b off hm => hrows b off (List.mem_append_right _ hm))
    have hain : MemPlace.cell a.block a.off ∈ MemPlace.row ⟨x.1, 0, none⟩ (⟨[Value.iface 102 (Value.pointer (some a))]⟩ : Array Value).size ++ MemPlace.row a 1 := List.mem_append_right _ (by simp [MemPlace.row])
    refine ⟨a :: al, by simp [hlen], ?_, ?_, ?_⟩
    · intro b hb
      rcases List.mem_cons.1 hb with rfl | hb
      · exact List.mem_append_left _ hain
      · exact List.mem_append_right _ (hmem b hb)
    · refine List.nodup_cons.2 ⟨fun hin => ?_, hasnd⟩
      exact (List.nodup_append.1 hnd).2.2 _ hain _ (hmem a hin) rfl
    · intro i hi
      rcases i with _ | i
      · exact ⟨by simpa using World.var?_cell hg hv 0, (hrows a.block a.off (List.mem_append_left _ hain)).1⟩
      · simpa using hrow i (by simpa using hi)

theorem Tryd.etOne : ((List.range 122).filter fun t => Tryd.prog.rowNamed t [101, 114, 114, 111, 114]) = [33] := by kernel_rfl
theorem Tryd.etSize : Tryd.prog.types.size = 122 := by kernel_rfl
end Go.Proofs.YtcipbkaopnaiiacDoor
