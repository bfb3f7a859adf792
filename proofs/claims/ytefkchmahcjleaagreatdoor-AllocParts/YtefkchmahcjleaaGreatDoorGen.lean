/-
 What the library's generic contracts ask of this program, laid at its numbers: facts of the program alone.
-/
import Derived.Shelf.SlSortCmp.InsertionK
import Derived.Shelf.SlicesE.Clone
import Derived.Test.YtefkchmahcjleaaGreatDoorProg
namespace Go.Proofs
open Go.Shelf
def Tryz.laysInsL_ren : Go.Shelf.Ren := ⟨fun | 20 => 172 | n => n, fun | 24 => 40 | 22 => 142 | 3 => 3 | 25 => 207 | 4 => 4 | 0 => 0 | n => n, fun | n => n⟩
theorem Tryz.laysInsL : Go.Proofs.SlLaysF0.n20 Tryz.prog Tryz.laysInsL_ren := {
 mixed := by kernel_rfl
 f20 := ⟨Tryz.f172.name, by decide, Tryz.func172.trans (congrArg some (by kernel_rfl))⟩
 t0 := Tryz.underlying0
 a0 := Tryz.isAgg0
 z0 := Tryz.sizeOf0
 v0 := Tryz.zeroValue0
 t3 := Tryz.underlying3
 a3 := Tryz.isAgg3
 z3 := Tryz.sizeOf3
 v3 := Tryz.zeroValue3
 t4 := Tryz.underlying4
 a4 := Tryz.isAgg4
 z4 := Tryz.sizeOf4
 v4 := Tryz.zeroValue4
 t22 := Tryz.underlying142
 a22 := Tryz.isAgg142
 z22 := Tryz.sizeOf142
 v22 := Tryz.zeroValue142
 t25 := Tryz.underlying207
 a25 := Tryz.isAgg207
 z25 := Tryz.sizeOf207
 v25 := Tryz.zeroValue207 }
def Tryz.laysCloneL_ren : Go.Shelf.Ren := ⟨fun | 41 => 128 | n => n, fun | 22 => 142 | 23 => 40 | 4 => 4 | n => n, fun | n => n⟩
theorem Tryz.laysCloneL : Go.Proofs.SlLaysE0.n41 Tryz.prog Tryz.laysCloneL_ren := {
 mixed := by kernel_rfl
 f41 := ⟨Tryz.f128.name, by decide, Tryz.func128.trans (congrArg some (by kernel_rfl))⟩
 t4 := Tryz.underlying4
 a4 := Tryz.isAgg4
 z4 := Tryz.sizeOf4
 v4 := Tryz.zeroValue4
 t22 := Tryz.underlying142
 a22 := Tryz.isAgg142
 z22 := Tryz.sizeOf142
 v22 := Tryz.zeroValue142 }
end Go.Proofs
