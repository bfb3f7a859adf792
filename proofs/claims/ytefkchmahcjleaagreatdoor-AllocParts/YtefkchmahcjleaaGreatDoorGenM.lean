/-
 What the library's generic contracts ask of this program, laid at its numbers: facts of the program alone.
-/
import Derived.Shelf.SlMaps.Clone
import Derived.Test.YtefkchmahcjleaaGreatDoorProg
namespace Go.Proofs
open Go.Shelf
def Tryz.laysCloneM_ren : Go.Shelf.Ren := ⟨fun | 5 => 66 | 7 => 65 | n => n, fun | 23 => 136 | 25 => 139 | 3 => 3 | 4 => 4 | 20 => 20 | n => n, fun | n => n⟩
theorem Tryz.laysCloneM : Go.Proofs.SlLaysW.n5 Tryz.prog Tryz.laysCloneM_ren := {
 mixed := by kernel_rfl
 f5 := ⟨Tryz.f66.name, by decide, Tryz.func66.trans (congrArg some (by kernel_rfl))⟩
 f7 := Tryz.func65.trans (congrArg some (by kernel_rfl))
 t4 := Tryz.underlying4
 a4 := Tryz.isAgg4
 z4 := Tryz.sizeOf4
 v4 := Tryz.zeroValue4
 t20 := Tryz.underlying20
 a20 := Tryz.isAgg20
 z20 := Tryz.sizeOf20
 v20 := Tryz.zeroValue20
 t23 := Tryz.underlying136
 a23 := Tryz.isAgg136
 z23 := Tryz.sizeOf136
 v23 := Tryz.zeroValue136 }
def Tryz.laysCloneG_ren : Go.Shelf.Ren := ⟨fun | 5 => 24 | 7 => 65 | n => n, fun | 23 => 70 | 25 => 9 | 3 => 38 | 4 => 4 | 20 => 20 | n => n, fun | n => n⟩
theorem Tryz.laysCloneG : Go.Proofs.SlLaysW.n5 Tryz.prog Tryz.laysCloneG_ren := {
 mixed := by kernel_rfl
 f5 := ⟨Tryz.f24.name, by decide, Tryz.func24.trans (congrArg some (by kernel_rfl))⟩
 f7 := Tryz.func65.trans (congrArg some (by kernel_rfl))
 t4 := Tryz.underlying4
 a4 := Tryz.isAgg4
 z4 := Tryz.sizeOf4
 v4 := Tryz.zeroValue4
 t20 := Tryz.underlying20
 a20 := Tryz.isAgg20
 z20 := Tryz.sizeOf20
 v20 := Tryz.zeroValue20
 t23 := Tryz.underlying70
 a23 := Tryz.isAgg70
 z23 := Tryz.sizeOf70
 v23 := Tryz.zeroValue70 }
def Tryz.laysCloneU_ren : Go.Shelf.Ren := ⟨fun | 5 => 25 | 7 => 65 | n => n, fun | 23 => 72 | 25 => 9 | 3 => 80 | 4 => 4 | 20 => 20 | n => n, fun | n => n⟩
theorem Tryz.laysCloneU : Go.Proofs.SlLaysW.n5 Tryz.prog Tryz.laysCloneU_ren := {
 mixed := by kernel_rfl
 f5 := ⟨Tryz.f25.name, by decide, Tryz.func25.trans (congrArg some (by kernel_rfl))⟩
 f7 := Tryz.func65.trans (congrArg some (by kernel_rfl))
 t4 := Tryz.underlying4
 a4 := Tryz.isAgg4
 z4 := Tryz.sizeOf4
 v4 := Tryz.zeroValue4
 t20 := Tryz.underlying20
 a20 := Tryz.isAgg20
 z20 := Tryz.sizeOf20
 v20 := Tryz.zeroValue20
 t23 := Tryz.underlying72
 a23 := Tryz.isAgg72
 z23 := Tryz.sizeOf72
 v23 := Tryz.zeroValue72 }
def Tryz.laysCloneQ_ren : Go.Shelf.Ren := ⟨fun | 5 => 26 | 7 => 65 | n => n, fun | 23 => 73 | 25 => 9 | 3 => 40 | 4 => 4 | 20 => 20 | n => n, fun | n => n⟩
theorem Tryz.laysCloneQ : Go.Proofs.SlLaysW.n5 Tryz.prog Tryz.laysCloneQ_ren := {
 mixed := by kernel_rfl
 f5 := ⟨Tryz.f26.name, by decide, Tryz.func26.trans (congrArg some (by kernel_rfl))⟩
 f7 := Tryz.func65.trans (congrArg some (by kernel_rfl))
 t4 := Tryz.underlying4
 a4 := Tryz.isAgg4
 z4 := Tryz.sizeOf4
 v4 := Tryz.zeroValue4
 t20 := Tryz.underlying20
 a20 := Tryz.isAgg20
 z20 := Tryz.sizeOf20
 v20 := Tryz.zeroValue20
 t23 := Tryz.underlying73
 a23 := Tryz.isAgg73
 z23 := Tryz.sizeOf73
 v23 := Tryz.zeroValue73 }
def Tryz.laysCloneH_ren : Go.Shelf.Ren := ⟨fun | 5 => 27 | 7 => 65 | n => n, fun | 23 => 74 | 25 => 9 | 3 => 3 | 4 => 4 | 20 => 20 | n => n, fun | n => n⟩
theorem Tryz.laysCloneH : Go.Proofs.SlLaysW.n5 Tryz.prog Tryz.laysCloneH_ren := {
 mixed := by kernel_rfl
 f5 := ⟨Tryz.f27.name, by decide, Tryz.func27.trans (congrArg some (by kernel_rfl))⟩
 f7 := Tryz.func65.trans (congrArg some (by kernel_rfl))
 t4 := Tryz.underlying4
 a4 := Tryz.isAgg4
 z4 := Tryz.sizeOf4
 v4 := Tryz.zeroValue4
 t20 := Tryz.underlying20
 a20 := Tryz.isAgg20
 z20 := Tryz.sizeOf20
 v20 := Tryz.zeroValue20
 t23 := Tryz.underlying74
 a23 := Tryz.isAgg74
 z23 := Tryz.sizeOf74
 v23 := Tryz.zeroValue74 }
end Go.Proofs
