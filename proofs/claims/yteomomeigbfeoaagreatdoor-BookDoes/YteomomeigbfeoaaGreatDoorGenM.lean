/-
 What the library's generic contracts ask of this program, laid at its numbers: facts of the program alone.
-/
import Derived.Shelf.SlMaps.Clone
import Derived.Test.YteomomeigbfeoaaGreatDoorProg
namespace Go.Proofs
open Go.Shelf
def Tryz.laysCloneM_ren : Go.Shelf.Ren := ⟨fun | 5 => 88 | 7 => 87 | n => n, fun | 23 => 114 | 25 => 118 | 3 => 3 | 4 => 4 | 20 => 20 | n => n, fun | n => n⟩
theorem Tryz.laysCloneM : Go.Proofs.SlLaysW.n5 Tryz.prog Tryz.laysCloneM_ren := {
 mixed := by kernel_rfl
 f5 := ⟨Tryz.f88.name, by decide, Tryz.func88.trans (congrArg some (by kernel_rfl))⟩
 f7 := Tryz.func87.trans (congrArg some (by kernel_rfl))
 t4 := Tryz.underlying4
 a4 := Tryz.isAgg4
 z4 := Tryz.sizeOf4
 v4 := Tryz.zeroValue4
 t20 := Tryz.underlying20
 a20 := Tryz.isAgg20
 z20 := Tryz.sizeOf20
 v20 := Tryz.zeroValue20
 t23 := Tryz.underlying114
 a23 := Tryz.isAgg114
 z23 := Tryz.sizeOf114
 v23 := Tryz.zeroValue114 }
def Tryz.laysCloneG_ren : Go.Shelf.Ren := ⟨fun | 5 => 42 | 7 => 87 | n => n, fun | 23 => 90 | 25 => 9 | 3 => 24 | 4 => 4 | 20 => 20 | n => n, fun | n => n⟩
theorem Tryz.laysCloneG : Go.Proofs.SlLaysW.n5 Tryz.prog Tryz.laysCloneG_ren := {
 mixed := by kernel_rfl
 f5 := ⟨Tryz.f42.name, by decide, Tryz.func42.trans (congrArg some (by kernel_rfl))⟩
 f7 := Tryz.func87.trans (congrArg some (by kernel_rfl))
 t4 := Tryz.underlying4
 a4 := Tryz.isAgg4
 z4 := Tryz.sizeOf4
 v4 := Tryz.zeroValue4
 t20 := Tryz.underlying20
 a20 := Tryz.isAgg20
 z20 := Tryz.sizeOf20
 v20 := Tryz.zeroValue20
 t23 := Tryz.underlying90
 a23 := Tryz.isAgg90
 z23 := Tryz.sizeOf90
 v23 := Tryz.zeroValue90 }
def Tryz.laysCloneU_ren : Go.Shelf.Ren := ⟨fun | 5 => 43 | 7 => 87 | n => n, fun | 23 => 92 | 25 => 9 | 3 => 46 | 4 => 4 | 20 => 20 | n => n, fun | n => n⟩
theorem Tryz.laysCloneU : Go.Proofs.SlLaysW.n5 Tryz.prog Tryz.laysCloneU_ren := {
 mixed := by kernel_rfl
 f5 := ⟨Tryz.f43.name, by decide, Tryz.func43.trans (congrArg some (by kernel_rfl))⟩
 f7 := Tryz.func87.trans (congrArg some (by kernel_rfl))
 t4 := Tryz.underlying4
 a4 := Tryz.isAgg4
 z4 := Tryz.sizeOf4
 v4 := Tryz.zeroValue4
 t20 := Tryz.underlying20
 a20 := Tryz.isAgg20
 z20 := Tryz.sizeOf20
 v20 := Tryz.zeroValue20
 t23 := Tryz.underlying92
 a23 := Tryz.isAgg92
 z23 := Tryz.sizeOf92
 v23 := Tryz.zeroValue92 }
def Tryz.laysCloneQ_ren : Go.Shelf.Ren := ⟨fun | 5 => 44 | 7 => 87 | n => n, fun | 23 => 93 | 25 => 9 | 3 => 26 | 4 => 4 | 20 => 20 | n => n, fun | n => n⟩
theorem Tryz.laysCloneQ : Go.Proofs.SlLaysW.n5 Tryz.prog Tryz.laysCloneQ_ren := {
 mixed := by kernel_rfl
 f5 := ⟨Tryz.f44.name, by decide, Tryz.func44.trans (congrArg some (by kernel_rfl))⟩
 f7 := Tryz.func87.trans (congrArg some (by kernel_rfl))
 t4 := Tryz.underlying4
 a4 := Tryz.isAgg4
 z4 := Tryz.sizeOf4
 v4 := Tryz.zeroValue4
 t20 := Tryz.underlying20
 a20 := Tryz.isAgg20
 z20 := Tryz.sizeOf20
 v20 := Tryz.zeroValue20
 t23 := Tryz.underlying93
 a23 := Tryz.isAgg93
 z23 := Tryz.sizeOf93
 v23 := Tryz.zeroValue93 }
def Tryz.laysCloneH_ren : Go.Shelf.Ren := ⟨fun | 5 => 45 | 7 => 87 | n => n, fun | 23 => 94 | 25 => 9 | 3 => 3 | 4 => 4 | 20 => 20 | n => n, fun | n => n⟩
theorem Tryz.laysCloneH : Go.Proofs.SlLaysW.n5 Tryz.prog Tryz.laysCloneH_ren := {
 mixed := by kernel_rfl
 f5 := ⟨Tryz.f45.name, by decide, Tryz.func45.trans (congrArg some (by kernel_rfl))⟩
 f7 := Tryz.func87.trans (congrArg some (by kernel_rfl))
 t4 := Tryz.underlying4
 a4 := Tryz.isAgg4
 z4 := Tryz.sizeOf4
 v4 := Tryz.zeroValue4
 t20 := Tryz.underlying20
 a20 := Tryz.isAgg20
 z20 := Tryz.sizeOf20
 v20 := Tryz.zeroValue20
 t23 := Tryz.underlying94
 a23 := Tryz.isAgg94
 z23 := Tryz.sizeOf94
 v23 := Tryz.zeroValue94 }
end Go.Proofs
