/-
  What errors.Is answers at the sentinels of package api and at an api.Fault that wraps one of them, over whatever world; conditions: the pointers' own cells.
-/
import Derived.Test.YtefkchmahcjleaaDoorErrs
namespace Go.Proofs.YtefkchmahcjleaaDoor
open Go.RowKit Go.Extern.Stop Go.Stop Go.Extern

/-- errors.Is(x, x). -/
theorem is_same (a : Addr) (w : World) :
    Calls Tryd.prog 31 #[.iface 119 (.pointer (some a)), .iface 119 (.pointer (some a))] w fun e w' => e = .returned (.bool true) ∧ w' = w := by
  obtain ⟨i, hi, hcmp⟩ := Option.map_eq_some_iff.1 Tryd.eComp
  obtain ⟨j, hj, hjs⟩ : ∃ j, Tryd.prog.info? 137 = some j ∧ j.size ≠ 0 := by
    rcases Tryd.eSize with h | h <;> obtain ⟨j, hj, hjs⟩ := Option.map_eq_some_iff.1 h <;> exact ⟨j, hj, by rw [hjs]; decide⟩
  have h8 := Tryd.eCallTypeOf
  have h32 := Tryd.eCallComparable
  have tT := Tryd.eTypeOfE
  have mR := Tryd.eMethodComparable
  have heq := run_eql_iface_ptr_same (P := Tryd.prog) w a Tryd.underlying29 Tryd.underlying119 hi hcmp hj
  go_enter Tryd.func31, Tryd.ntmps31
  go_wp2
  refine wp_loop_rounds 1 ?_
  rw [rounds_succ]
  go_wp2
  go_ret
  exact ⟨rfl, rfl⟩

/-- errors.Is(x, y), two errors of errors.New at unlike places. -/
theorem is_other (a b : Addr) (ca cb : Array Value) (ta tb : TypeId) (w : World) (hne : a ≠ b) (ha : w.heap[a.block]? = some (.cells ca ta (0, 0))) (hb : w.heap[b.block]? = some (.cells cb tb (0, 0))) :
    Calls Tryd.prog 31 #[.iface 119 (.pointer (some a)), .iface 119 (.pointer (some b))] w fun e w' => e = .returned (.bool false) ∧ w' = w := by
  obtain ⟨i, hi, hcmp⟩ := Option.map_eq_some_iff.1 Tryd.eComp
  obtain ⟨j, hj, hjs⟩ : ∃ j, Tryd.prog.info? 137 = some j ∧ j.size ≠ 0 := by
    rcases Tryd.eSize with h | h <;> obtain ⟨j, hj, hjs⟩ := Option.map_eq_some_iff.1 h <;> exact ⟨j, hj, by rw [hjs]; decide⟩
  have h8 := Tryd.eCallTypeOf
  have h32 := Tryd.eCallComparable
  have tT := Tryd.eTypeOfE
  have mR := Tryd.eMethodComparable
  have nE := Tryd.eNoIsE
  have uE := Tryd.eNoUnwrapE
  have vE := Tryd.eNoUnwrapsE
  have heq := run_eql_iface_ptr_other (P := Tryd.prog) w Tryd.underlying29 Tryd.underlying119 hi hcmp hj hjs hne ha hb
  go_enter Tryd.func31, Tryd.ntmps31
  go_wp2
  refine wp_loop_rounds 1 ?_
  rw [rounds_succ]
  go_wp2
  go_ret
  exact ⟨rfl, rfl⟩

/-- errors.Is(f, x), f an api.Fault that wraps x. -/
theorem is_wrap_same (pb po : Nat) (b : Addr) (w : World) (h1 : w.cell? ⟨pb, po + 1, none⟩ = some (.iface 119 (.pointer (some b)))) :
    Calls Tryd.prog 31 #[.iface 63 (.pointer (some ⟨pb, po, none⟩)), .iface 119 (.pointer (some b))] w fun e w' => e = .returned (.bool true) ∧ w' = w := by
  obtain ⟨i, hi, hcmp⟩ := Option.map_eq_some_iff.1 Tryd.eComp
  obtain ⟨j, hj, hjs⟩ : ∃ j, Tryd.prog.info? 137 = some j ∧ j.size ≠ 0 := by
    rcases Tryd.eSize with h | h <;> obtain ⟨j, hj, hjs⟩ := Option.map_eq_some_iff.1 h <;> exact ⟨j, hj, by rw [hjs]; decide⟩
  have h8 := Tryd.eCallTypeOf
  have h32 := Tryd.eCallComparable
  have tT := Tryd.eTypeOfE
  have mR := Tryd.eMethodComparable
  have nW := Tryd.eNoIsF
  have uW := Tryd.eHasUnwrapF
  have mU := Tryd.eMethodUnwrap
  have heq := run_eql_iface_ptr_same (P := Tryd.prog) w b Tryd.underlying29 Tryd.underlying119 hi hcmp hj
  have hty := run_eql_iface_types (P := Tryd.prog) 63 119 (.pointer (some ⟨pb, po, none⟩)) (.pointer (some b)) Tryd.underlying29 (by decide) w
  go_enter Tryd.func31, Tryd.ntmps31
  go_wp2
  refine wp_loop_rounds 2 ?_
  rw [rounds_succ]
  go_wp2
  rw [rounds_succ]
  go_wp2
  go_ret
  exact ⟨rfl, rfl⟩

/-- errors.Is(f, x), f an api.Fault that wraps another one. -/
theorem is_wrap_other (pb po : Nat) (b a : Addr) (ca cb : Array Value) (ta tb : TypeId) (w : World) (h1 : w.cell? ⟨pb, po + 1, none⟩ = some (.iface 119 (.pointer (some a)))) (hne : a ≠ b) (ha : w.heap[a.block]? = some (.cells ca ta (0, 0))) (hb : w.heap[b.block]? = some (.cells cb tb (0, 0))) :
    Calls Tryd.prog 31 #[.iface 63 (.pointer (some ⟨pb, po, none⟩)), .iface 119 (.pointer (some b))] w fun e w' => e = .returned (.bool false) ∧ w' = w := by
  obtain ⟨i, hi, hcmp⟩ := Option.map_eq_some_iff.1 Tryd.eComp
  obtain ⟨j, hj, hjs⟩ : ∃ j, Tryd.prog.info? 137 = some j ∧ j.size ≠ 0 := by
    rcases Tryd.eSize with h | h <;> obtain ⟨j, hj, hjs⟩ := Option.map_eq_some_iff.1 h <;> exact ⟨j, hj, by rw [hjs]; decide⟩
  have h8 := Tryd.eCallTypeOf
  have h32 := Tryd.eCallComparable
  have tT := Tryd.eTypeOfE
  have mR := Tryd.eMethodComparable
  have nE := Tryd.eNoIsE
  have uE := Tryd.eNoUnwrapE
  have vE := Tryd.eNoUnwrapsE
  have nW := Tryd.eNoIsF
  have uW := Tryd.eHasUnwrapF
  have mU := Tryd.eMethodUnwrap
  have heq := run_eql_iface_ptr_other (P := Tryd.prog) w Tryd.underlying29 Tryd.underlying119 hi hcmp hj hjs hne ha hb
  have hty := run_eql_iface_types (P := Tryd.prog) 63 119 (.pointer (some ⟨pb, po, none⟩)) (.pointer (some b)) Tryd.underlying29 (by decide) w
  go_enter Tryd.func31, Tryd.ntmps31
  go_wp2
  refine wp_loop_rounds 2 ?_
  rw [rounds_succ]
  go_wp2
  rw [rounds_succ]
  go_wp2
  go_ret
  exact ⟨rfl, rfl⟩

end Go.Proofs.YtefkchmahcjleaaDoor
