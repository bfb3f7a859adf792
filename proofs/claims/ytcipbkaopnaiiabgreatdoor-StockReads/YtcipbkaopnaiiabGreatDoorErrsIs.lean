/-
  What errors.Is answers at the sentinels of package api and at an api.Fault that wraps one of them, over whatever world; conditions: the pointers' own cells.
-/
import Derived.Test.YtcipbkaopnaiiabGreatDoorErrs
namespace Go.Proofs.YtcipbkaopnaiiabGreatDoor
open Go.RowKit Go.Extern.Stop Go.Stop Go.Extern

/-- errors.Is(x, x). -/
theorem is_same (a : Addr) (w : World) :
    Calls Tryz.prog 82 #[.iface 230 (.pointer (some a)), .iface 230 (.pointer (some a))] w fun e w' => e = .returned (.bool true) ∧ w' = w := by
  obtain ⟨i, hi, hcmp⟩ := Option.map_eq_some_iff.1 Tryz.eComp
  obtain ⟨j, hj, hjs⟩ : ∃ j, Tryz.prog.info? 249 = some j ∧ j.size ≠ 0 := by
    rcases Tryz.eSize with h | h <;> obtain ⟨j, hj, hjs⟩ := Option.map_eq_some_iff.1 h <;> exact ⟨j, hj, by rw [hjs]; decide⟩
  have h8 := Tryz.eCallTypeOf
  have h32 := Tryz.eCallComparable
  have tT := Tryz.eTypeOfE
  have mR := Tryz.eMethodComparable
  have heq := run_eql_iface_ptr_same (P := Tryz.prog) w a Tryz.underlying25 Tryz.underlying230 hi hcmp hj
  go_enter Tryz.func82, Tryz.ntmps82
  go_wp2
  refine wp_loop_rounds 1 ?_
  rw [rounds_succ]
  go_wp2
  go_ret
  exact ⟨rfl, rfl⟩

/-- errors.Is(x, y), two errors of errors.New at unlike places. -/
theorem is_other (a b : Addr) (ca cb : Array Value) (ta tb : TypeId) (w : World) (hne : a ≠ b) (ha : w.heap[a.block]? = some (.cells ca ta (0, 0))) (hb : w.heap[b.block]? = some (.cells cb tb (0, 0))) :
    Calls Tryz.prog 82 #[.iface 230 (.pointer (some a)), .iface 230 (.pointer (some b))] w fun e w' => e = .returned (.bool false) ∧ w' = w := by
  obtain ⟨i, hi, hcmp⟩ := Option.map_eq_some_iff.1 Tryz.eComp
  obtain ⟨j, hj, hjs⟩ : ∃ j, Tryz.prog.info? 249 = some j ∧ j.size ≠ 0 := by
    rcases Tryz.eSize with h | h <;> obtain ⟨j, hj, hjs⟩ := Option.map_eq_some_iff.1 h <;> exact ⟨j, hj, by rw [hjs]; decide⟩
  have h8 := Tryz.eCallTypeOf
  have h32 := Tryz.eCallComparable
  have tT := Tryz.eTypeOfE
  have mR := Tryz.eMethodComparable
  have nE := Tryz.eNoIsE
  have uE := Tryz.eNoUnwrapE
  have vE := Tryz.eNoUnwrapsE
  have heq := run_eql_iface_ptr_other (P := Tryz.prog) w Tryz.underlying25 Tryz.underlying230 hi hcmp hj hjs hne ha hb
  go_enter Tryz.func82, Tryz.ntmps82
  go_wp2
  refine wp_loop_rounds 1 ?_
  rw [rounds_succ]
  go_wp2
  go_ret
  exact ⟨rfl, rfl⟩

/-- errors.Is(f, x), f an api.Fault that wraps x. -/
theorem is_wrap_same (pb po : Nat) (b : Addr) (w : World) (h1 : w.cell? ⟨pb, po + 1, none⟩ = some (.iface 230 (.pointer (some b)))) :
    Calls Tryz.prog 82 #[.iface 75 (.pointer (some ⟨pb, po, none⟩)), .iface 230 (.pointer (some b))] w fun e w' => e = .returned (.bool true) ∧ w' = w := by
  obtain ⟨i, hi, hcmp⟩ := Option.map_eq_some_iff.1 Tryz.eComp
  obtain ⟨j, hj, hjs⟩ : ∃ j, Tryz.prog.info? 249 = some j ∧ j.size ≠ 0 := by
    rcases Tryz.eSize with h | h <;> obtain ⟨j, hj, hjs⟩ := Option.map_eq_some_iff.1 h <;> exact ⟨j, hj, by rw [hjs]; decide⟩
  have h8 := Tryz.eCallTypeOf
  have h32 := Tryz.eCallComparable
  have tT := Tryz.eTypeOfE
  have mR := Tryz.eMethodComparable
  have nW := Tryz.eNoIsF
  have uW := Tryz.eHasUnwrapF
  have mU := Tryz.eMethodUnwrap
  have heq := run_eql_iface_ptr_same (P := Tryz.prog) w b Tryz.underlying25 Tryz.underlying230 hi hcmp hj
  have hty := run_eql_iface_types (P := Tryz.prog) 75 230 (.pointer (some ⟨pb, po, none⟩)) (.pointer (some b)) Tryz.underlying25 (by decide) w
  go_enter Tryz.func82, Tryz.ntmps82
  go_wp2
  refine wp_loop_rounds 2 ?_
  rw [rounds_succ]
  go_wp2
  rw [rounds_succ]
  go_wp2
  go_ret
  exact ⟨rfl, rfl⟩

/-- errors.Is(f, x), f an api.Fault that wraps another one. -/
theorem is_wrap_other (pb po : Nat) (b a : Addr) (ca cb : Array Value) (ta tb : TypeId) (w : World) (h1 : w.cell? ⟨pb, po + 1, none⟩ = some (.iface 230 (.pointer (some a)))) (hne : a ≠ b) (ha : w.heap[a.block]? = some (.cells ca ta (0, 0))) (hb : w.heap[b.block]? = some (.cells cb tb (0, 0))) :
    Calls Tryz.prog 82 #[.iface 75 (.pointer (some ⟨pb, po, none⟩)), .iface 230 (.pointer (some b))] w fun e w' => e = .returned (.bool false) ∧ w' = w := by
  obtain ⟨i, hi, hcmp⟩ := Option.map_eq_some_iff.1 Tryz.eComp
  obtain ⟨j, hj, hjs⟩ : ∃ j, Tryz.prog.info? 249 = some j ∧ j.size ≠ 0 := by
    rcases Tryz.eSize with h | h <;> obtain ⟨j, hj, hjs⟩ := Option.map_eq_some_iff.1 h <;> exact ⟨j, hj, by rw [hjs]; decide⟩
  have h8 := Tryz.eCallTypeOf
  have h32 := Tryz.eCallComparable
  have tT := Tryz.eTypeOfE
  have mR := Tryz.eMethodComparable
  have nE := Tryz.eNoIsE
  have uE := Tryz.eNoUnwrapE
  have vE := Tryz.eNoUnwrapsE
  have nW := Tryz.eNoIsF
  have uW := Tryz.eHasUnwrapF
  have mU := Tryz.eMethodUnwrap
  have heq := run_eql_iface_ptr_other (P := Tryz.prog) w Tryz.underlying25 Tryz.underlying230 hi hcmp hj hjs hne ha hb
  have hty := run_eql_iface_types (P := Tryz.prog) 75 230 (.pointer (some ⟨pb, po, none⟩)) (.pointer (some b)) Tryz.underlying25 (by decide) w
  go_enter Tryz.func82, Tryz.ntmps82
  go_wp2
  refine wp_loop_rounds 2 ?_
  rw [rounds_succ]
  go_wp2
  rw [rounds_succ]
  go_wp2
  go_ret
  exact ⟨rfl, rfl⟩

end Go.Proofs.YtcipbkaopnaiiabGreatDoor
