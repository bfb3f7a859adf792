/-
 What the library's generic contracts ask of this program, laid at its numbers: facts of the program alone.
-/
import Derived.Shelf.SlSortCmp.InsertionK
import Derived.Test.YtppodkkefegbkaaGreatDoorProg
namespace Go.Proofs
open Go.Shelf
def Tryz.laysInsSh_ren : Go.Shelf.Ren := ⟨fun | 20 => 109 | n => n, fun | 24 => 114 | 22 => 109 | 3 => 3 | 25 => 116 | 4 => 4 | 0 => 0 | n => n, fun | n => n⟩
theorem Tryz.laysInsSh : Go.Proofs.SlLaysF0.n20 Tryz.prog Tryz.laysInsSh_ren := {
 mixed := by kernel_rfl
 f20 := ⟨Tryz.f109.name, by decide, Tryz.func109.trans (congrArg some (by kernel_rfl))⟩
 t0 := Tryz.underlying0
 a0 := Tryz.isAgg0
 z0 := Tryz.sizeOf0
 v0 := Tryz.zeroValue0
 t3 := Tryz.underlying3
 a3 := Tryz.isAgg3
 z3 := Tryz.sizeOf3
 v3 := Tryz.zeroValue3
 t4 := Tryz.underlying4
 a4 := Tryz.isAgg4
 z4 := Tryz.sizeOf4
 v4 := Tryz.zeroValue4
 t22 := Tryz.underlying109
 a22 := Tryz.isAgg109
 z22 := Tryz.sizeOf109
 v22 := Tryz.zeroValue109
 t25 := Tryz.underlying116
 a25 := Tryz.isAgg116
 z25 := Tryz.sizeOf116
 v25 := Tryz.zeroValue116 }
end Go.Proofs
