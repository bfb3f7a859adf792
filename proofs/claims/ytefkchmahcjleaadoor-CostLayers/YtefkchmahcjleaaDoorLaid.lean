/-
  From what a row lists of package-level variables to what the walks ask: the twelve sentinels' pointers, none twice, and errors.errorType.
-/
import Derived.Test.YtefkchmahcjleaaDoorRows
import Derived.Test.YtefkchmahcjleaaDoorCode
import Derived.LaidLaws
import Derived.LaidHandle
import Derived.Stop.LaidErr
namespace Go.Proofs.YtefkchmahcjleaaDoor
open Go.ChangeShapes Go.WideShapes Go.RowKit

theorem Tryd.own : ownKnob Tryd.prog.godebug = none := by kernel_rfl
theorem Tryd.cellsE : Tryd.prog.cellsOf 137 = 1 := by kernel_rfl
theorem Tryd.cellsS : Tryd.prog.cellsOf 9 = 1 := by kernel_rfl
theorem Tryd.star : "*" ++ "errors.errorString" = "*errors.errorString" := by decide
theorem Tryd.rowE (u : TypeId) (h : Tryd.prog.typeName? 3 u = some "*errors.errorString") : u = 119 :=
  typeName_ptr_named (nm := "errors.errorString") (by rw [Tryd.star]; kernel_rfl) (by kernel_rfl) (by decide) u (by rw [Tryd.star]; exact h)

/-- An error of errors.New, read through. -/
abbrev errD (text : List UInt8) : DataW Unit := .iface "*errors.errorString" (.ptr (.agg [.lit (.string text)]))
def SentRow (W : World) (g : Nat) (a : Addr) : Prop := W.cell? ⟨g, 0, none⟩ = some (err a) ∧ ∃ c t, W.heap[a.block]? = some (.cells c t (0, 0))

set_option maxRecDepth 100000 in
theorem sents_of_laid {W : World} : ∀ (l : List (Nat × String × List UInt8)) (ps : List MemPlace), (∀ x ∈ l, Tryd.prog.globalNamed x.2.1 = some x.1 ∧ (Tryd.prog.globals[x.1]?).map (·.type) = some 29) →
    DataW.LaidVars Tryd.prog W (l.map fun x => (x.2.1, errD x.2.2)) ps → ps.Nodup →
    (∀ b off, MemPlace.cell b off ∈ ps → (∃ c t, W.heap[b]? = some (.cells c t (0, 0))) ∧ ∀ u v, W.cell? ⟨b, off, none⟩ = some (.iface u v) → Value.okWide Tryd.prog W .any 0 u v) →
    ∃ al : List Addr, al.length = l.length ∧ (∀ a ∈ al, MemPlace.cell a.block a.off ∈ ps) ∧ al.Nodup ∧ ∀ i, i < l.length → SentRow W (l.getD i (0, default, [])).1 (al.getD i ⟨0, 0, none⟩)
  | [], _, _, _, _, _ => ⟨[], rfl, (fun a h => by cases h), List.nodup_nil, fun i h => absurd h (Nat.not_lt_zero _)⟩
  | x :: l, ps, hx, hl, hnd, hrows => by
    obtain ⟨g, t, cs, fuel, p, q, hg, ht, hv, hd, hq, rfl⟩ := hl
    obtain ⟨hg', ht'⟩ := hx x (List.mem_cons_self ..)
    obtain rfl := Option.some.inj (hg'.symm.trans hg)
    obtain rfl := Option.some.inj (ht'.symm.trans ht)
    obtain ⟨cl⟩ := cs
    have ok : ∀ u v, cl = [.iface u v] → Value.okWide Tryd.prog W .any 0 u v := fun u v e => by
      subst e
      exact (hrows x.1 0 (by simp [MemPlace.row])).2 u v (by simpa using World.var?_cell hg hv 0)
    obtain ⟨a, s0, rfl, hc0, hs0, hz0, rfl⟩ := errorString_of_trod Tryd.underlying29 Tryd.rowE Tryd.underlying119 Tryd.underlying137 rfl rfl Tryd.underlying9 Tryd.cellsE Tryd.cellsS hd ok
    obtain ⟨al, hlen, hmem, hasnd, hrow⟩ := sents_of_laid l q (fun y hy => hx y (List.mem_cons_of_mem _ hy)) hq (List.Nodup.sublist (List.sublist_append_right _ _) hnd) (fun b off hm => hrows b off (List.mem_append_right _ hm))
    have hain : MemPlace.cell a.block a.off ∈ MemPlace.row ⟨x.1, 0, none⟩ (⟨[Value.iface 119 (Value.pointer (some a))]⟩ : Array Value).size ++ MemPlace.row a 1 := List.mem_append_right _ (by simp [MemPlace.row])
    refine ⟨a :: al, by simp [hlen], ?_, ?_, ?_⟩
    · intro b hb
      rcases List.mem_cons.1 hb with rfl | hb
      · exact List.mem_append_left _ hain
      · exact List.mem_append_right _ (hmem b hb)
    · refine List.nodup_cons.2 ⟨fun hin => ?_, hasnd⟩
      exact (List.nodup_append.1 hnd).2.2 _ hain _ (hmem a hin) rfl
    · intro i hi
      rcases i with _ | i
      · exact ⟨by simpa using World.var?_cell hg hv 0, (hrows a.block a.off (List.mem_append_left _ hain)).1⟩
      · simpa using hrow i (by simpa using hi)

/-- The twelve, as a row lists them. -/
def sentList : List (Nat × String × List UInt8) := [
  (3, "tithebarn/api.ErrText", [116, 105, 116, 104, 101, 98, 97, 114, 110, 58, 32, 116, 101, 120, 116]),
  (1, "tithebarn/api.ErrBound", [116, 105, 116, 104, 101, 98, 97, 114, 110, 58, 32, 98, 111, 117, 110, 100]),
  (0, "tithebarn/api.ErrShape", [116, 105, 116, 104, 101, 98, 97, 114, 110, 58, 32, 115, 104, 97, 112, 101]),
  (4, "tithebarn/api.ErrKind", [116, 105, 116, 104, 101, 98, 97, 114, 110, 58, 32, 107, 105, 110, 100]),
  (5, "tithebarn/api.ErrName", [116, 105, 116, 104, 101, 98, 97, 114, 110, 58, 32, 110, 97, 109, 101]),
  (6, "tithebarn/api.ErrNone", [116, 105, 116, 104, 101, 98, 97, 114, 110, 58, 32, 110, 111, 110, 101]),
  (7, "tithebarn/api.ErrExist", [116, 105, 116, 104, 101, 98, 97, 114, 110, 58, 32, 101, 120, 105, 115, 116]),
  (8, "tithebarn/api.ErrFull", [116, 105, 116, 104, 101, 98, 97, 114, 110, 58, 32, 102, 117, 108, 108]),
  (2, "tithebarn/api.ErrShort", [116, 105, 116, 104, 101, 98, 97, 114, 110, 58, 32, 115, 104, 111, 114, 116]),
  (9, "tithebarn/api.ErrOrder", [116, 105, 116, 104, 101, 98, 97, 114, 110, 58, 32, 111, 114, 100, 101, 114]),
  (10, "tithebarn/api.ErrState", [116, 105, 116, 104, 101, 98, 97, 114, 110, 58, 32, 115, 116, 97, 116, 101]),
  (11, "tithebarn/api.ErrOff", [116, 105, 116, 104, 101, 98, 97, 114, 110, 58, 32, 111, 102, 102])]
theorem sentList_ok : (sentList.all fun x => decide (Tryd.prog.globalNamed x.2.1 = some x.1) && decide ((Tryd.prog.globals[x.1]?).map (·.type) = some 29)) = true := by kernel_rfl

theorem sent_of_laid {W : World} (h : laidMet Tryd.prog (sentList.map fun x => (x.2.1, errD x.2.2)) W) : ∃ s, Sent W s := by
  obtain ⟨ps, hl, hnd, hrows⟩ := h
  obtain ⟨al, hlen, _, hasnd, hrow⟩ := sents_of_laid sentList ps (fun x hx => by
    have := List.all_eq_true.1 sentList_ok x hx
    simpa using this) hl hnd hrows
  have h12 : al.length = 12 := hlen
  refine ⟨fun i => al.getD i ⟨0, 0, none⟩, ?_, fun i hi => (hrow i hi).2, ?_⟩
  · intro i hi
    have hr := (hrow i hi).1
    rcases i with _ | _ | _ | _ | _ | _ | _ | _ | _ | _ | _ | _ | i
    all_goals first | exact hr | omega
  · intro i j hi hj he
    have e1 : al.getD i ⟨0, 0, none⟩ = al[i] := by rw [List.getD_eq_getElem?_getD, List.getElem?_eq_getElem (by omega)]; rfl
    have e2 : al.getD j ⟨0, 0, none⟩ = al[j] := by rw [List.getD_eq_getElem?_getD, List.getElem?_eq_getElem (by omega)]; rfl
    simp only [e1, e2] at he
    exact (List.getElem_inj hasnd).1 he

theorem Tryd.etG : Tryd.prog.globalNamed "errors.errorType" = some 12 := by kernel_rfl
theorem Tryd.etR : (Tryd.prog.cutTypes.find? (·.1 == "internal/reflectlite.rtype")).map (·.2) = some 95 := by kernel_rfl
theorem Tryd.etOne : ((List.range 149).filter fun t => Tryd.prog.rowNamed t [101, 114, 114, 111, 114]) = [29] := by kernel_rfl
theorem Tryd.etSize : Tryd.prog.types.size = 149 := by kernel_rfl
theorem handle_of_laid {W : World} (h : handlesMet Tryd.prog [("errors.errorType", Rows.laid_errors_errorType)] W) : Handle W := by
  obtain ⟨name, u, ty, e1, e2, e3, e4, e5⟩ := h _ (List.mem_singleton.2 rfl)
  have en : name = [101, 114, 114, 111, 114] := (Option.some.inj e1).symm
  subst en
  obtain rfl := Option.some.inj (Tryd.etR.symm.trans e2)
  have hm : ty ∈ (List.range 149).filter fun t => Tryd.prog.rowNamed t [101, 114, 114, 111, 114] := List.mem_filter.2 ⟨List.mem_range.2 (by rw [← Tryd.etSize]; exact e3), e4⟩
  rw [Tryd.etOne] at hm
  obtain rfl := List.mem_singleton.1 hm
  have hh : typeHandle Tryd.prog 29 = .pointer (some ⟨17, 29, none⟩) := by kernel_rfl
  rw [hh] at e5
  unfold Handle
  simpa using World.var?_cell Tryd.etG e5 0
end Go.Proofs.YtefkchmahcjleaaDoor
